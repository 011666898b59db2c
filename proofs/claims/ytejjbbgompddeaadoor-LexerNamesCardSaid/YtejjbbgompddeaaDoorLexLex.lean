/- Tokens of package lexer: what it returns for every text. -/
import Derived.Test.YtejjbbgompddeaaDoorLexTokens
import Derived.OwnWalk
import Derived.Laws.OwnMore
import Derived.Deep.AppendLies
namespace Go.Proofs.YtejjbbgompddeaaDoor
open Go.RowKit Go.Instr
set_option linter.unusedVariables false
set_option linter.unusedSimpArgs false

/-- A token's cells. -/
def tkC (y : Tk × Nat) : List Value := [.int .u8 (y.1.k : Nat), .string ⟨y.1.t.toArray⟩, .int .i64 y.1.n, .int .i64 (y.2 : Nat)]
def tkRow (L : List (Tk × Nat)) : List Value := L.flatMap tkC
theorem tkRow_snoc (L : List (Tk × Nat)) (y : Tk × Nat) : tkRow (L ++ [y]) = tkRow L ++ tkC y := by simp [tkRow]
theorem tok_info : (Tryd.prog.info? 29).map (fun i => (i.zero, i.size, i.bytes)) = some (some (.agg #[.int .u8 0, .string ⟨#[]⟩, .int .i64 0, .int .i64 0]), 4, 40) := by kernel_rfl

theorem RdAt.kept {w w' : World} {r : Nat} {bs : ByteArray} {a : Nat} {m : Option Nat} {row : Option Nat} (h : RdAt w r bs a m) (hg : w.grownBy w' row) (hq : row ≠ some r) : RdAt w' r bs a m := by
  have := h.lt; unfold RdAt at h ⊢; rw [hg.block r this (fun e => hq e.symm)]; exact h
theorem FormsAt.kept {w w' : World} {r m : Nat} {row : Option Nat} (h : FormsAt w r m) (hg : w.grownBy w' row) (hq : row ≠ some m) : FormsAt w' r m := by
  unfold FormsAt at h ⊢; rw [hg.block m (lt_of_block h) (fun e => hq e.symm)]; exact h
theorem laidOn_of {w0 w : World} {r : Nat} (h : LaidAt w0) (hb : Below w0.heap.size w0 w) (hr : w0.heap.size ≤ r) : LaidOn w r := fun W hW => h.below (hb.trans (below_grown hW hr hb.size))
theorem own_ge {w : World} {B n : Nat} {v : Value} {xs : List Value} (h : w.ownsRow B 29 4 v n xs) : ∀ k, v.ownBlock = some k → B ≤ k := by
  rcases h.2 with ⟨rfl, _⟩ | ⟨g, cap, cur, rfl, hg, _⟩
  · intro k hk; cases hk
  · intro k hk; cases hk; exact hg

theorem own_lower {w : World} {B B' n : Nat} {v : Value} {xs : List Value} (h : w.ownsRow B 29 4 v n xs) (hB : B' ≤ B) : w.ownsRow B' 29 4 v n xs := by
  refine ⟨h.1, ?_⟩
  rcases h.2 with h' | ⟨g, cap, cur, hv, hg, r⟩
  · exact .inl h'
  · exact .inr ⟨g, cap, cur, hv, by omega, r⟩
theorem own_slice {w : World} {B n : Nat} {v : Value} {xs : List Value} (h : w.ownsRow B 29 4 v n xs) : ∃ A c, v = .slice A n c := by
  rcases h.2 with ⟨rfl, rfl⟩ | ⟨g, cap, cur, rfl, _⟩
  · exact ⟨none, 0, rfl⟩
  · exact ⟨_, cap, rfl⟩
theorem cells_four (W : World) (a b c d : Value) (T : TypeId) : ∀ (j : Nat) (u : Value), [a, b, c, d][j]? = some u → (W.alloc (.cells #[a, b, c, d] T)).cell? ((⟨W.heap.size, 0, none⟩ : Addr).add j) = some u := by
  intro j u hu
  have h := (MapKept.heap_alloc W (.cells #[a, b, c, d] T)).1
  have hj : j < 4 := by
    rcases Nat.lt_or_ge j 4 with h' | h'
    · exact h'
    · rw [List.getElem?_eq_none (by simpa using h')] at hu; cases hu
  have hadd : (⟨W.heap.size, 0, none⟩ : Addr).add j = ⟨W.heap.size, j, none⟩ := by unfold Addr.add; split <;> simp_all
  rw [hadd]
  simp only [World.cell?, h]
  rcases (by omega : j = 0 ∨ j = 1 ∨ j = 2 ∨ j = 3) with rfl | rfl | rfl | rfl <;> (simp at hu; subst hu; rfl)

theorem tk_cells (W : World) (y : Tk × Nat) (b : Nat) (T : TypeId) (hb : W.heap.size = b) : ∀ (j : Nat) (u : Value), (tkC y)[j]? = some u → (W.alloc (.cells #[.int .u8 (y.1.k : Nat), .string ⟨y.1.t.toArray⟩, .int .i64 y.1.n, .int .i64 (y.2 : Nat)] T)).cell? ((⟨b, 0, none⟩ : Addr).add j) = some u := by
  subst hb
  exact cells_four W _ _ _ _ T

/-- What Tokens gives. -/
def TokensGives (l : List UInt8) (w : World) (e : Ending) (w' : World) : Prop :=
  ∃ v, e = .returned (.tuple #[v, .int .i64 ((lexR l).2.1 : Nat), .int .i64 ((lexR l).2.2 : Nat)]) ∧ w'.ownsRow w.heap.size 29 4 v (lexR l).1.length (tkRow (lexR l).1) ∧ Below w.heap.size w w'
theorem nilRow (w : World) (B : Nat) : w.ownsRow B 29 4 (.slice none 0 0) ([] : List (Tk × Nat)).length (tkRow []) := ⟨rfl, .inl ⟨rfl, rfl⟩⟩

/-- The run, at the head of the loop: a token begins at place at', or the text is at its end. -/
def HeadAt (l : List UInt8) (at' : Nat) (acc : List (Tk × Nat)) : Prop :=
  at' ≤ l.length ∧ (l.drop at' = [] → lexR l = (acc, 0, 0)) ∧
  (l.drop at' ≠ [] → nextT (l.drop at') = none → lexR l = ([], at', 12)) ∧
  (∀ x n, nextT (l.drop at') = some (x, n) → 20000 ≤ acc.length → lexR l = ([], at', 4)) ∧
  (∀ x n, nextT (l.drop at') = some (x, n) → acc.length < 20000 → ∃ f a0, a0 = at' + n ∧ lexR l = run f (l.drop a0) a0 (acc ++ [(x, at')]) ∧ (l.drop a0).length < f)
theorem headAt_of {l : List UInt8} {f a0 : Nat} {acc : List (Tk × Nat)} (h : lexR l = run f (l.drop a0) a0 acc) (hf : (l.drop a0).length < f) (ha : a0 ≤ l.length) : HeadAt l (a0 + skipN (l.drop a0)) acc := by
  obtain ⟨g, rfl⟩ : ∃ g, f = g + 1 := ⟨f - 1, by omega⟩
  have hs := skipN_le (l.drop a0)
  have hsl := hs
  rw [List.length_drop] at hsl hf
  have hd : (l.drop a0).drop (skipN (l.drop a0)) = l.drop (a0 + skipN (l.drop a0)) := List.drop_drop ..
  unfold run at h
  rw [hd] at h
  refine ⟨by omega, fun he => ?_, fun hne hn => ?_, fun x n hn hacc => ?_, fun x n hn hacc => ?_⟩
  · rw [if_pos he] at h; exact h
  · rw [if_neg hne, hn] at h; exact h
  · have hne : l.drop (a0 + skipN (l.drop a0)) ≠ [] := by intro e; rw [e] at hn; cases hn
    rw [if_neg hne, hn] at h
    simp only at h
    rw [if_pos hacc] at h
    exact h
  · have hne : l.drop (a0 + skipN (l.drop a0)) ≠ [] := by intro e; rw [e] at hn; cases hn
    rw [if_neg hne, hn] at h
    simp only at h
    rw [if_neg (by omega), List.drop_drop] at h
    obtain ⟨n1, n2, _, _⟩ := nextT_le hn
    rw [List.length_drop] at n2
    exact ⟨g, _, rfl, h, by rw [List.length_drop]; omega⟩

theorem clone_any (s : ByteArray) (w : World) (hs : s.size ≤ 1000000) :
    Calls Tryd.prog 18 #[.string s] w fun e w' => e = .returned (.string s) ∧ Below w.heap.size w w' := by
  have HC := Lib.hid (fun W => Tryd.stringslite_Clone s W (by omega))
  clear hs
  go_enter Tryd.func18, Tryd.ntmps18
  go_wp2_with (go_at_call 36; (with_reducible refine (HC.out _).mono ?_); rintro e w1 ⟨rfl, hb1⟩)
  go_ret
  exact ⟨rfl, hb1⟩

/-- What stands at the head of the loop. -/
structure LexAt (l : List UInt8) (s : ByteArray) (w : World) (r : Nat) (wr : World) (at' : Nat) (acc : List (Tk × Nat)) (v : Value) : Prop where
  rd : RdAt wr r s at' (some (r + 1))
  forms : FormsAt wr r (r + 1)
  below : Below w.heap.size w wr
  own : wr.ownsRow (r + 2) 29 4 v acc.length (tkRow acc)
  head : HeadAt l at' acc
  cap : acc.length ≤ 20000

set_option maxHeartbeats 4000000 in
set_option maxRecDepth 100000 in
theorem tokens_any (s : ByteArray) (w : World) (hs : s.size ≤ 999999) (hL : LaidAt w) :
    Calls Tryd.prog 6 #[.string s] w fun e w' => TokensGives s.data.toList w e w' := by
  have hl : s.data.toList.length = s.size := rfl
  by_cases hbig : 65536 < s.size
  · have hR : lexR s.data.toList = ([], 0, 4) := by unfold lexR; rw [if_pos (by omega)]
    have HG := Lib.hid (show TokensGives s.data.toList w (.returned (.tuple #[.slice none 0 0, .int .i64 0, .int .i64 4])) w from ⟨_, by rw [hR]; rfl, by rw [hR]; exact nilRow _ _, Below.refl _ _⟩)
    have hb2 : (65536 : Int) < (s.size : Int) := by omega
    clear hR hl hbig hs hL
    go_enter Tryd.func6, Tryd.ntmps6
    go_wp2
    go_ret3
    exact HG.out
  have hsmall : ¬ (65536 : Int) < (s.size : Int) := by omega
  have hR : lexR s.data.toList = run (s.data.toList.length + 1) (s.data.toList.drop 0) 0 [] := by unfold lexR; rw [if_neg (by omega)]; rfl
  have HH := Lib.hid (headAt_of hR (by simp) (by omega))
  have HL := Lib.hid hL
  have HN := Lib.hid (newReader_any w)
  have HC := Lib.hid (fun W => clone_any s W (by omega))
  have HSZ := Lib.hid (And.intro hs hl)
  obtain ⟨r, hr⟩ : ∃ r, r = w.heap.size := ⟨_, rfl⟩
  have HRR := Lib.hid hr
  obtain ⟨i0, hi, hz0, hz1, hz2⟩ := info_parts tok_info
  clear hl hbig hs hL hR hr
  go_enter Tryd.func6, Tryd.ntmps6
  go_wp2_with (first
    | (go_at_call 17; (with_reducible refine HN.out.mono ?_); rintro e w1 ⟨rfl, hm⟩; rw [← HRR.out]; have HM := Lib.hid hm; clear hm)
    | (go_at_call 18; (with_reducible refine (HC.out _).mono ?_); rintro e w2 ⟨rfl, hb2⟩; have HB2 := Lib.hid hb2; clear hb2; obtain ⟨r0, r1⟩ : w2.cell? ⟨r, 0, none⟩ = some (.string ⟨#[]⟩) ∧ w2.frozen? ⟨r, 0, none⟩ = false := (by rw [HRR.out]; exact ⟨(HM.out.2.1.below HB2.out).c0, (HM.out.2.1.below HB2.out).f0⟩))
    | (go_at_call 19; fail "stop"))
  have hrd2 : RdAt (w2.setCell ⟨r, 0, none⟩ (.string s)) r s 0 (some (r + 1)) := by
    have := HM.out.2.1.below HB2.out
    rw [← HRR.out] at this
    exact this.set0 s
  have hF2 : FormsAt (w2.setCell ⟨r, 0, none⟩ (.string s)) r (r + 1) := by
    have := HM.out.2.2.below HB2.out
    rw [← HRR.out] at this
    exact this.other (grown_set w2 ⟨r, 0, none⟩ _) (by show r + 1 ≠ r; omega)
  have hB2 : Below w.heap.size w (w2.setCell ⟨r, 0, none⟩ (.string s)) := (HM.out.1.trans (HB2.out.mono HM.out.1.size)).setCell (by show w.heap.size ≤ r; rw [HRR.out]; exact Nat.le_refl _) _
  have HLO := Lib.hid (fun W (hb : Below w.heap.size w W) => laidOn_of (r := r) HL.out hb (by rw [HRR.out]; exact Nat.le_refl _))
  have HW2 := Lib.hid (And.intro hrd2 (And.intro hF2 hB2))
  clear hrd2 hF2 hB2 r0 r1
  refine (skip_any r 0 (some (r + 1)) s _ HW2.out.1 (HLO.out _ HW2.out.2.2) HSZ.out.1 (Nat.zero_le _)).mono ?_
  rintro e w3 ⟨rfl, hg3, hrd3⟩
  have HS3 : Hid (LexAt s.data.toList s w r w3 (0 + skipN (s.data.toList.drop 0)) [] (.slice none 0 0)) := Lib.hid
    ⟨hrd3, HW2.out.2.1.other hg3 (by omega), HW2.out.2.2.trans (below_grown hg3 (by rw [HRR.out]; exact Nat.le_refl _) HW2.out.2.2.size), nilRow _ _, HH.out, by simp⟩
  clear hg3 hrd3
  go_wp2
  go_loopw [2] (fun v wr => ∃ (at' : Nat) (acc : List (Tk × Nat)), LexAt s.data.toList s w r wr at' acc v) (fun _ wr => s.size - atOf r wr)
  case atStart => exact ⟨_, _, HS3.out⟩
  case round =>
    obtain ⟨x, acc, hst⟩ := hrel
    obtain ⟨A, cp, rfl⟩ := own_slice hst.own
    have HST := Lib.hid hst
    have c0 := hst.rd.c0
    have c1 := hst.rd.c1
    obtain ⟨hs, hl⟩ := HSZ.out
    have hx := hst.head.1
    have x1 : (x : Int) ≤ 999999 := by omega
    have z2 : (s.size : Int) ≤ 999999 := by omega
    clear hst
    by_cases hlt : x < s.size
    · have g1 : (x : Int) < (s.size : Int) := by omega
      have HLT := Lib.hid hlt
      have HT := Lib.hid (fun W hrd hF hlo => token_any r x (r + 1) s W hrd hF hlo hs (by omega))
      clear hs hl hx hlt
      go_wp2
      go_quiet (fail)
      go_wp2_with (fail)
      refine (HT.out (wr.drewN _) HST.out.rd HST.out.forms (HLO.out _ (HST.out.below.trans (drewN_below _ _ |>.mono HST.out.below.size)))).mono ?_
      rintro e w4 ⟨ht, hg4⟩
      unfold TokGives at ht
      have HG4 := Lib.hid (show wr.grownBy w4 (some r) from grown_trans (grown_below (drewN_below wr _)) hg4)
      have HB4 := Lib.hid (HST.out.below.trans (below_grown HG4.out (by rw [HRR.out]; exact Nat.le_refl _) HST.out.below.size))
      have HF4 := Lib.hid (HST.out.forms.other HG4.out (by omega))
      have HO4 := Lib.hid (HST.out.own.kept HG4.out (.inr (fun e => by have := own_ge HST.out.own _ e; omega)))
      clear hg4 c0 c1
      cases hn : nextT (s.data.toList.drop x) with
      | none =>
        rw [hn] at ht
        obtain ⟨rfl, hrd4⟩ := ht
        have c1 := hrd4.c1
        have hr4 := hrd4.lt
        have HE := Lib.hid (HST.out.head.2.2.1 (fun e => by have := congrArg List.length e; rw [List.length_drop] at this; have := HLT.out; have := HSZ.out.2; simp at *; omega) hn)
        clear hn hrd4
        go_wp2
        go_quiet (fail)
        go_wp2
        go_ret3
        exact ⟨.slice none 0 0, by rw [HE.out]; rfl, by rw [HE.out]; exact nilRow _ _, (HB4.out.alloc HB4.out.size _).trans (drewN_below _ _ |>.mono (HB4.out.alloc HB4.out.size _).size)⟩
      | some y =>
        obtain ⟨y, n⟩ := y
        rw [hn] at ht
        obtain ⟨T, rfl, hT, hrd4⟩ := ht
        obtain rfl : T = ⟨y.t.toArray⟩ := ba_eq (by rw [hT])
        have HN4 := Lib.hid hn
        have HRD4 := Lib.hid hrd4
        clear hn hrd4 hT
        by_cases hcap : acc.length = 20000
        · have HE := Lib.hid (HST.out.head.2.2.2.1 y n HN4.out (by omega))
          have hc2 : ((acc.length : Int) == 20000) = true := by simp; omega
          go_wp2
          go_quiet (fail)
          go_wp2
          go_ret3
          exact ⟨.slice none 0 0, by rw [HE.out]; rfl, by rw [HE.out]; exact nilRow _ _, (HB4.out.alloc HB4.out.size _).trans (drewN_below _ _ |>.mono (HB4.out.alloc HB4.out.size _).size)⟩
        · have hc2 : ((acc.length : Int) == 20000) = false := by simp; omega
          have hacc : acc.length < 20000 := by have := HST.out.cap; omega
          have HA5 := Lib.hid (HST.out.head.2.2.2.2 y n HN4.out hacc)
          have HAC := Lib.hid hacc
          have hsz4 := HB4.out.size
          have HSZ4 := Lib.hid hsz4
          clear hacc hcap hsz4
          go_wp2_with (at_builtin; refine Hid.out ?_)
          refine Lib.hid ?_
          refine wpList_append_own _ rfl _ _ 23 rfl (r + 2) 29 i0 (.agg #[.int .u8 0, .string ⟨#[]⟩, .int .i64 0, .int .i64 0]) 4 40 Tryd.underlying23 hi hz0 hz1 hz2 rfl (by decide) _ acc.length (tkRow acc) rfl ((HO4.out.alloc _).alloc _) ⟨_, 0, none⟩ 1 1 (tkC (y, x)) rfl rfl (tk_cells _ (y, x) _ _ (by simp)) (by intro u hu; simp [tkC] at hu; rcases hu with rfl | rfl | rfl | rfl <;> rfl) (by have := HAC.out; unfold maxLen; omega) (by have := HAC.out; omega) (by have := HSZ4.out; have := HRR.out; simp; omega) ?_
          intro v5 w5 hown5 hg5 _
          have hge := own_ge HST.out.own
          have hba : Below w4.heap.size w4 _ := ((Below.refl w4.heap.size w4).alloc (Nat.le_refl _) (.cells #[.int .u8 (y.k : Nat), .string ⟨y.t.toArray⟩, .int .i64 y.n, .int .i64 (x : Nat)] 29)).alloc (by simp) (.cells #[.int .u8 (y.k : Nat), .string ⟨y.t.toArray⟩, .int .i64 y.n, .int .i64 (x : Nat)] 29)
          have HRD5 := Lib.hid ((HRD4.out.below hba).kept hg5 (fun e => by have := hge _ e; omega))
          have HF5 := Lib.hid ((HF4.out.below hba).kept hg5 (fun e => by have := hge _ e; omega))
          have HB5 := Lib.hid ((HB4.out.trans (hba.mono HB4.out.size)).grown hg5 (by have := HB4.out.size; simp; omega) (fun k hk => by have := hge _ hk; have := HRR.out; omega))
          have HO5 := Lib.hid (show w5.ownsRow (r + 2) 29 4 v5 (acc ++ [(y, x)]).length (tkRow (acc ++ [(y, x)])) by rw [tkRow_snoc, List.length_append]; exact hown5)
          clear hown5 hg5 hge hba hc2
          go_wp2_with (fail)
          refine (skip_any r (x + n) (some (r + 1)) s w5 HRD5.out (HLO.out _ HB5.out) HSZ.out.1 (by have := (nextT_le HN4.out).2.1; rw [List.length_drop] at this; have := HSZ.out.2; have := HLT.out; omega)).mono ?_
          rintro e w6 ⟨rfl, hg6, hrd6⟩
          have HR6 := Lib.hid hrd6
          have HS6 : Hid (LexAt s.data.toList s w r w6 (x + n + skipN (s.data.toList.drop (x + n))) (acc ++ [(y, x)]) v5) := Lib.hid (by
            obtain ⟨f, a0, rfl, h1, h2⟩ := HA5.out
            refine ⟨HR6.out, HF5.out.other hg6 (by omega), HB5.out.trans (below_grown hg6 (by rw [HRR.out]; exact Nat.le_refl _) HB5.out.size), HO5.out.kept hg6 (.inr (fun e => by have := own_ge HO5.out _ e; omega)), headAt_of h1 h2 ?_, by rw [List.length_append]; have := HAC.out; simp; omega⟩
            have := (nextT_le HN4.out).2.1; rw [List.length_drop] at this; have := HSZ.out.2; have := HLT.out; omega)
          have HM6 : Hid (s.size - atOf r w6 < s.size - atOf r wr) := Lib.hid (by
            rw [atOf_eq HR6.out, atOf_eq HST.out.rd]
            have := (nextT_le HN4.out).1; have := HLT.out; omega)
          clear hg6 hrd6
          go_wp2
          go_roundw
          case rel => exact ⟨_, _, HS6.out⟩
          case measure => exact HM6.out
    · have HE := Lib.hid (HST.out.head.2.1 (List.drop_of_length_le (by omega)))
      have g1 : ¬ (x : Int) < (s.size : Int) := by omega
      clear hs hl hx hlt
      go_wp2
      go_quiet (fail)
      go_wp2_with (fail)
      go_ret3
      exact ⟨_, by rw [HE.out]; rfl, by rw [HE.out]; exact own_lower HST.out.own (by have := HRR.out; omega), HST.out.below.trans (drewN_below _ _ |>.mono HST.out.below.size)⟩
end Go.Proofs.YtejjbbgompddeaaDoor
