/- The forms of tokens: single, mark, line, name, number, quoted of package lexer. -/
import Derived.Test.YtejjbbgompddeaaDoorLexReader
import Derived.Test.YtejjbbgompddeaaDoorLexValue
import Derived.Test.YtejjbbgompddeaaDoorLexName
namespace Go.Proofs.YtejjbbgompddeaaDoor
open Go.RowKit
set_option linter.unusedVariables false
set_option linter.unusedSimpArgs false

/-- What a form gives at the bytes l. -/
def FormGives (l : List UInt8) (e : Ending) : Prop := ∃ (k : Int) (T : ByteArray) (n : Int) (ok : Bool), e = .returned (.tuple #[.agg #[.int .u8 k, .string T, .int .i64 n, .int .i64 0], .bool ok]) ∧
  ok = (nextT l).isSome ∧ ∀ x m, nextT l = some (x, m) → k = x.k ∧ T.data.toList = x.t ∧ n = x.n ∧ T.size ≤ m

set_option maxRecDepth 100000 in
theorem single_any (r a : Nat) (K : Int) (m : Option Nat) (bs : ByteArray) (w : World) (hr : RdAt w r bs a m) (hbs : bs.size ≤ 999999) (ha : a < bs.size) :
    Calls Tryd.prog 45 #[.pointer (some ⟨r, 0, none⟩), .int .u8 K] w fun e w' => e = .returned (.tuple #[.agg #[.int .u8 K, .string (bs.extract a (a + 1)), .int .i64 0, .int .i64 0], .bool true]) ∧ Below w.heap.size w w' := by
  have c0 := hr.c0
  have c1 := hr.c1
  have hlt := hr.lt
  have z1 : (a : Int) + 1 ≤ (bs.size : Int) := by omega
  have z2 : (bs.size : Int) ≤ 999999 := by omega
  clear hr ha hbs
  go_enter Tryd.func45, Tryd.ntmps45
  go_wp2
  go_region
  go_wp2
  exact bodyPost_ret (v := .tuple #[.agg #[.int .u8 K, .string (bs.extract a (a + 1)), .int .i64 0, .int .i64 0], .bool true]) (by simp [results, Tryd.results45, go_sem]) rfl ⟨rfl, ((Below.refl _ _).alloc (Nat.le_refl _) _).drew⟩

/-- The result's cells behind a call. -/
theorem tokCells {w w1 : World} (hb : Below (w.alloc (.cells #[.int .u8 0, .string ⟨#[]⟩, .int .i64 0, .int .i64 0] 29)).heap.size (w.alloc (.cells #[.int .u8 0, .string ⟨#[]⟩, .int .i64 0, .int .i64 0] 29)) w1) :
    w1.cell? ⟨w.heap.size, 0, none⟩ = some (.int .u8 0) ∧ w1.cell? ⟨w.heap.size, 1, none⟩ = some (.string ⟨#[]⟩) ∧ w1.cell? ⟨w.heap.size, 2, none⟩ = some (.int .i64 0) ∧ w1.cell? ⟨w.heap.size, 3, none⟩ = some (.int .i64 0) ∧ (∀ o, w1.frozen? ⟨w.heap.size, o, none⟩ = false) := by
  have hlt : w.heap.size < (w.alloc (.cells #[.int .u8 0, .string ⟨#[]⟩, .int .i64 0, .int .i64 0] 29)).heap.size := by simp
  have h := (MapKept.heap_alloc w (.cells #[.int .u8 0, .string ⟨#[]⟩, .int .i64 0, .int .i64 0] 29)).1
  have h2 := (hb.block w.heap.size hlt).trans h
  refine ⟨by simp [World.cell?, h2], by simp [World.cell?, h2], by simp [World.cell?, h2], by simp [World.cell?, h2], fun o => by simp [World.frozen?, h2]⟩

/-- What the result's four stores leave. -/
theorem tokOut {w w1 : World} (hb : Below (w.alloc (.cells #[.int .u8 0, .string ⟨#[]⟩, .int .i64 0, .int .i64 0] 29)).heap.size (w.alloc (.cells #[.int .u8 0, .string ⟨#[]⟩, .int .i64 0, .int .i64 0] 29)) w1) (a b c d : Value) :
    Below w.heap.size w ((((w1.setCell ⟨w.heap.size, 0, none⟩ a).setCell ⟨w.heap.size, 1, none⟩ b).setCell ⟨w.heap.size, 2, none⟩ c).setCell ⟨w.heap.size, 3, none⟩ d) :=
  ((((((Below.refl _ _).alloc (Nat.le_refl _) _).trans (hb.mono (by simp))).setCell (Nat.le_refl _) _).setCell (Nat.le_refl _) _).setCell (Nat.le_refl _) _).setCell (Nat.le_refl _) _

/-- A byte by itself: the class says which token it is. -/
theorem one_gives {l : List UInt8} {a K k : Nat} {bs : ByteArray} {c : UInt8} {t : List UInt8} (hl : bs.data.toList.drop a = c :: t) (hk : (cls c.toNat = 9 ∧ K = 5) ∨ (cls c.toNat = 8 ∧ K = 4)) :
    FormGives (bs.data.toList.drop a) (.returned (.tuple #[.agg #[.int .u8 K, .string (bs.extract a (a + 1)), .int .i64 0, .int .i64 0], .bool true])) := by
  have ht : (bs.extract a (a + 1)).data.toList = [c] := by
    rw [Lib.extract_data, hl, show a + 1 - a = 1 by omega]; rfl
  have hz : (bs.extract a (a + 1)).size ≤ 1 := by rw [ByteArray.size_extract]; omega
  have hn : nextT (c :: t) = some (⟨K, [c], 0⟩, 1) := by
    simp only [nextT]
    rcases hk with ⟨h, rfl⟩ | ⟨h, rfl⟩
    · rw [if_pos h]
    · rw [if_neg (by omega), if_pos h]
  refine ⟨(K : Nat), _, 0, true, rfl, by rw [hl, hn]; rfl, fun x m h => ?_⟩
  rw [hl, hn] at h
  cases h
  exact ⟨rfl, ht, rfl, hz⟩
set_option maxRecDepth 100000 in
theorem mark_any (r a : Nat) (m : Option Nat) (bs : ByteArray) (w : World) (hr : RdAt w r bs a m) (hbs : bs.size ≤ 999999) (ha : a < bs.size) (c : UInt8) (t : List UInt8) (hl : bs.data.toList.drop a = c :: t) (hc : cls c.toNat = 8) :
    Calls Tryd.prog 34 #[.pointer (some ⟨r, 0, none⟩)] w fun e w' => FormGives (bs.data.toList.drop a) e ∧ Below w.heap.size w w' := by
  have HS := Lib.hid (fun W (hb : Below w.heap.size w W) => single_any r a 4 m bs W (hr.below hb) hbs ha)
  have HG := Lib.hid (one_gives (K := 4) (k := 0) (l := []) hl (.inr ⟨hc, rfl⟩))
  obtain ⟨T, hT⟩ : ∃ T, bs.extract a (a + 1) = T := ⟨_, rfl⟩
  rw [hT] at HS HG
  clear hr hbs ha hl hc hT
  go_enter Tryd.func34, Tryd.ntmps34
  go_wp2_with (go_at_call 45; (with_reducible refine (HS.out _ ((Below.refl _ _).alloc (Nat.le_refl _) _)).mono ?_); rintro e w1 ⟨rfl, hb1⟩; have HB := Lib.hid hb1; obtain ⟨h0, h1, h2, h3, f0⟩ := tokCells hb1; clear hb1)
  exact bodyPost_ret (v := .tuple #[.agg #[.int .u8 4, .string T, .int .i64 0, .int .i64 0], .bool true]) (by simp [results, Tryd.results34, go_sem, h0, h1, h2, h3]) rfl ⟨HG.out, tokOut HB.out _ _ _ _⟩
set_option maxRecDepth 100000 in
theorem line_any (r a : Nat) (m : Option Nat) (bs : ByteArray) (w : World) (hr : RdAt w r bs a m) (hbs : bs.size ≤ 999999) (ha : a < bs.size) (c : UInt8) (t : List UInt8) (hl : bs.data.toList.drop a = c :: t) (hc : cls c.toNat = 9) :
    Calls Tryd.prog 35 #[.pointer (some ⟨r, 0, none⟩)] w fun e w' => FormGives (bs.data.toList.drop a) e ∧ Below w.heap.size w w' := by
  have HS := Lib.hid (fun W (hb : Below w.heap.size w W) => single_any r a 5 m bs W (hr.below hb) hbs ha)
  have HG := Lib.hid (one_gives (K := 5) (k := 0) (l := []) hl (.inl ⟨hc, rfl⟩))
  obtain ⟨T, hT⟩ : ∃ T, bs.extract a (a + 1) = T := ⟨_, rfl⟩
  rw [hT] at HS HG
  clear hr hbs ha hl hc hT
  go_enter Tryd.func35, Tryd.ntmps35
  go_wp2_with (go_at_call 45; (with_reducible refine (HS.out _ ((Below.refl _ _).alloc (Nat.le_refl _) _)).mono ?_); rintro e w1 ⟨rfl, hb1⟩; have HB := Lib.hid hb1; obtain ⟨h0, h1, h2, h3, f0⟩ := tokCells hb1; clear hb1)
  exact bodyPost_ret (v := .tuple #[.agg #[.int .u8 5, .string T, .int .i64 0, .int .i64 0], .bool true]) (by simp [results, Tryd.results35, go_sem, h0, h1, h2, h3]) rfl ⟨HG.out, tokOut HB.out _ _ _ _⟩

/-! ## Words -/
theorem isW_iff : ∀ n : Fin 256, (cls n.val == 3 || cls n.val == 4 || cls n.val == 5) = (decide (letterP n.val) || decide (digitP n.val) || n.val == 95) := by decide +kernel
theorem letN_iff : ∀ n : Fin 256, letN n.val = decide (letterP n.val) := by decide +kernel
theorem isW_char (c : UInt8) : isW c = true ↔ letterP c.toNat ∨ digitP c.toNat ∨ c.toNat = 95 := by
  have := isW_iff ⟨c.toNat, c.toNat_lt⟩
  unfold isW
  simp only at this
  rw [this]
  simp [or_assoc]
theorem letN_char (c : UInt8) : letN c.toNat = true ↔ letterP c.toNat := by
  have := letN_iff ⟨c.toNat, c.toNat_lt⟩
  simp only at this
  rw [this]; simp
theorem letter_not (n : Nat) : letterP n → ¬ (digitP n ∨ n = 95) := by unfold letterP digitP; omega
theorem headD_get (l : List UInt8) (h : 0 < l.length) : l.headD 0 = l[0] := by
  cases l with
  | nil => simp at h
  | cons x t => rfl
theorem all_tw (p : UInt8 → Bool) : ∀ l : List UInt8, (l.takeWhile p).all p = true
  | [] => rfl
  | x :: t => by
    rw [List.takeWhile_cons]
    by_cases h : p x = true
    · rw [if_pos h, List.all_cons, h, all_tw p t]; rfl
    · rw [if_neg h]; rfl
theorem nameR_nameB (s : ByteArray) : nameR s = nameB s.data.toList := by
  have hl : s.data.toList.length = s.size := rfl
  by_cases h : NameP s
  · rw [nameR_yes h]
    obtain ⟨h1, h2, h3⟩ := h
    symm
    unfold nameB
    simp only [Bool.and_eq_true, decide_eq_true_eq, List.all_eq_true]
    have hne : 0 < s.data.toList.length := by omega
    refine ⟨⟨⟨by omega, by omega⟩, ?_⟩, ?_⟩
    · have h0 := h3 0 (s.data.toList[0]) (List.getElem?_eq_getElem hne)
      have e : s.data.toList.headD 0 = s.data.toList[0] := headD_get _ hne
      rw [e, letN_char]
      rcases h0 with h0 | ⟨h0, _⟩
      · exact h0
      · exact absurd rfl h0
    · intro c hc
      obtain ⟨i, hi, he⟩ := List.mem_iff_getElem.1 hc
      have := h3 i c (by rw [List.getElem?_eq_getElem hi, he])
      rw [isW_char]
      rcases this with h | ⟨_, h⟩
      · exact .inl h
      · exact .inr h
  · rw [nameR_no h]
    symm
    rw [Bool.eq_false_iff]
    intro hb
    apply h
    unfold nameB at hb
    simp only [Bool.and_eq_true, decide_eq_true_eq, List.all_eq_true] at hb
    obtain ⟨⟨⟨h1, h2⟩, h3⟩, h4⟩ := hb
    refine ⟨by omega, by omega, fun i c hic => ?_⟩
    have hw := h4 c (List.mem_of_getElem? hic)
    rw [isW_char] at hw
    by_cases h0 : i = 0
    · subst h0
      left
      have e : s.data.toList.headD 0 = c := by
        cases hs : s.data.toList with
        | nil => rw [hs] at hic; simp at hic
        | cons x t => rw [hs] at hic; simpa using hic
      rw [e, letN_char] at h3
      exact h3
    · rcases hw with h | h
      · exact .inl h
      · exact .inr ⟨h0, h⟩
/-- The word at a place. -/
def wordS (bs : ByteArray) (a : Nat) : ByteArray := bs.extract a (a + 1 + wn bs.data.toList (a + 1))
theorem wordS_list {bs : ByteArray} {a : Nat} {c : UInt8} {t : List UInt8} (hl : bs.data.toList.drop a = c :: t) : (wordS bs a).data.toList = wordB c t := by
  have ht : bs.data.toList.drop (a + 1) = t := by
    rw [← List.drop_drop, hl]; rfl
  unfold wordS wn wordB
  rw [Lib.extract_data, hl, ht, show a + 1 + (t.takeWhile isW).length - a = (t.takeWhile isW).length + 1 by omega, List.take_succ_cons]
  congr 1
  conv => lhs; arg 2; rw [← List.takeWhile_append_dropWhile (p := isW) (l := t)]
  exact List.take_left
theorem wordS_size (bs : ByteArray) (a : Nat) {c : UInt8} {t : List UInt8} (hl : bs.data.toList.drop a = c :: t) : (wordS bs a).size = (wordB c t).length ∧ (wordS bs a).size ≤ bs.size := by
  have h1 : (wordS bs a).data.toList.length = (wordS bs a).size := rfl
  rw [wordS_list hl] at h1
  refine ⟨h1.symm, ?_⟩
  unfold wordS; rw [ByteArray.size_extract]; omega

set_option maxRecDepth 100000 in
theorem nameForm_any (r a : Nat) (m : Option Nat) (bs : ByteArray) (w : World) (hr : RdAt w r bs a m) (hT : LaidAt w) (hbs : bs.size ≤ 999999) (ha : a < bs.size) (c : UInt8) (t : List UInt8) (hl : bs.data.toList.drop a = c :: t) (hc : cls c.toNat = 3) :
    Calls Tryd.prog 31 #[.pointer (some ⟨r, 0, none⟩)] w fun e w' => FormGives (bs.data.toList.drop a) e ∧ Below w.heap.size w w' := by
  obtain ⟨S, hS⟩ : ∃ S, wordS bs a = S := ⟨_, rfl⟩
  have HS := Lib.hid (fun W (hb : Below w.heap.size w W) => word_any r a m bs W (hr.below hb) (hT.cls.below hb) hbs ha)
  have hsz := wordS_size bs a hl
  have hSl := wordS_list hl
  rw [hS] at hsz hSl
  unfold wordS at hS
  rw [hS] at HS
  have HN := Lib.hid (fun W => name_any S W (by omega))
  obtain ⟨q, hq⟩ : ∃ q, nameR S = q := ⟨_, rfl⟩
  rw [hq] at HN
  have HG : Hid (FormGives (bs.data.toList.drop a) (.returned (.tuple #[.agg #[.int .u8 1, .string S, .int .i64 0, .int .i64 0], .bool q]))) := Lib.hid (by
    rw [nameR_nameB, hSl] at hq
    have hn : nextT (c :: t) = if nameB (wordB c t) = true then some (⟨1, wordB c t, 0⟩, (wordB c t).length) else none := by
      simp only [nextT]
      rw [if_neg (by omega), if_neg (by omega), if_neg (by omega), if_pos hc]
    refine ⟨1, S, 0, q, rfl, ?_, fun x m h => ?_⟩
    · rw [hl, hn, hq]; cases q <;> rfl
    · rw [hl, hn, hq] at h
      cases q with
      | false => cases h
      | true => cases h; exact ⟨rfl, hSl, rfl, by omega⟩)
  clear hr hT hbs ha hl hc hS hsz hSl hq
  go_enter Tryd.func31, Tryd.ntmps31
  go_wp2_with (first
    | (go_at_call 41; (with_reducible refine (HS.out _ ((Below.refl _ _).alloc (Nat.le_refl _) _)).mono ?_); rintro e w1 ⟨rfl, hb1⟩; have HB := Lib.hid hb1; clear hb1)
    | (go_at_call 42; (with_reducible refine (HN.out _).mono ?_); rintro e w2 ⟨rfl, hb2⟩; have HB2 := Lib.hid (HB.out.trans (hb2.mono HB.out.size)); obtain ⟨h0, h1, h2, h3, f0⟩ := tokCells HB2.out; clear hb2))
  exact bodyPost_ret (v := .tuple #[.agg #[.int .u8 1, .string S, .int .i64 0, .int .i64 0], .bool q]) (by simp [results, Tryd.results31, go_sem, h0, h1, h2, h3]) rfl ⟨HG.out, tokOut HB2.out _ _ _ _⟩

set_option maxRecDepth 100000 in
theorem number_any (r a : Nat) (m : Option Nat) (bs : ByteArray) (w : World) (hr : RdAt w r bs a m) (hT : LaidAt w) (hbs : bs.size ≤ 999999) (ha : a < bs.size) (c : UInt8) (t : List UInt8) (hl : bs.data.toList.drop a = c :: t) (hc : cls c.toNat = 4 ∨ cls c.toNat = 6) :
    Calls Tryd.prog 32 #[.pointer (some ⟨r, 0, none⟩)] w fun e w' => FormGives (bs.data.toList.drop a) e ∧ Below w.heap.size w w' := by
  obtain ⟨S, hS⟩ : ∃ S, wordS bs a = S := ⟨_, rfl⟩
  have HS := Lib.hid (fun W (hb : Below w.heap.size w W) => word_any r a m bs W (hr.below hb) (hT.cls.below hb) hbs ha)
  have hsz := wordS_size bs a hl
  have hSl := wordS_list hl
  rw [hS] at hsz hSl
  unfold wordS at hS
  rw [hS] at HS
  have HN := Lib.hid (fun W (hb : Below w.heap.size w W) => value_any S c (t.takeWhile isW) W (by omega) (hT.below hb) hSl (all_tw isW t))
  have HG : Hid (∀ x : Int, (∀ n, numV S.data.toList = some n → x = n) → FormGives (bs.data.toList.drop a) (.returned (.tuple #[.agg #[.int .u8 2, .string S, .int .i64 x, .int .i64 0], .bool (numV S.data.toList).isSome]))) := Lib.hid (fun x hx => by
    have hn : nextT (c :: t) = match numV (wordB c t) with | some n => some (⟨2, wordB c t, n⟩, (wordB c t).length) | none => none := by
      simp only [nextT]
      rw [if_neg (by omega), if_neg (by omega), if_neg (by omega), if_neg (by omega), if_pos hc]
      cases numV (wordB c t) <;> rfl
    refine ⟨2, S, x, _, rfl, ?_, fun y m h => ?_⟩
    · rw [hl, hn, hSl]; cases numV (wordB c t) <;> rfl
    · rw [hl, hn] at h
      rw [hSl] at hx
      cases hv : numV (wordB c t) with
      | none => rw [hv] at h; cases h
      | some n => rw [hv] at h; cases h; exact ⟨rfl, hSl, hx n hv, by omega⟩)
  clear hr hT hbs ha hl hc hS hsz hSl
  go_enter Tryd.func32, Tryd.ntmps32
  go_wp2_with (first
    | (go_at_call 41; (with_reducible refine (HS.out _ ((Below.refl _ _).alloc (Nat.le_refl _) _)).mono ?_); rintro e w1 ⟨rfl, hb1⟩; have HB := Lib.hid hb1; clear hb1)
    | (go_at_call 43; (with_reducible refine (HN.out _ (((Below.refl _ _).alloc (Nat.le_refl _) _).trans (HB.out.mono (by simp)))).mono ?_); rintro e w2 ⟨⟨x, rfl, hx⟩, hb2⟩; have HB2 := Lib.hid (HB.out.trans (hb2.mono HB.out.size)); have HX := Lib.hid hx; obtain ⟨h0, h1, h2, h3, f0⟩ := tokCells HB2.out; clear hb2 hx))
  exact bodyPost_ret (v := .tuple #[.agg #[.int .u8 2, .string S, .int .i64 x, .int .i64 0], .bool (numV S.data.toList).isSome]) (by simp [results, Tryd.results32, go_sem, h0, h1, h2, h3]) rfl ⟨HG.out x HX.out, tokOut HB2.out _ _ _ _⟩

/-! ## Texts in quotation marks -/
theorem cls_34 {c : Nat} (h : cls c = 7) : c = 34 := by
  revert h; unfold cls; repeat' split
  all_goals first | (intro h; omega) | (intro h; contradiction)
theorem drewN_below (w : World) (n : Nat) : Below w.heap.size w (w.drewN n) := ⟨rfl, rfl, rfl, Nat.le_refl _, fun _ _ => rfl⟩
set_option maxRecDepth 100000 in
theorem quoted_any (r a : Nat) (m : Option Nat) (bs : ByteArray) (w : World) (hr : RdAt w r bs a m) (hbs : bs.size ≤ 999999) (ha : a < bs.size) (c : UInt8) (t : List UInt8) (hl : bs.data.toList.drop a = c :: t) (hc : cls c.toNat = 7) :
    Calls Tryd.prog 33 #[.pointer (some ⟨r, 0, none⟩)] w fun e w' => FormGives (bs.data.toList.drop a) e ∧ Below w.heap.size w w' := by
  obtain ⟨R, hR⟩ : ∃ R, bs.extract (a + 1) bs.size = R := ⟨_, rfl⟩
  have hRl : R.data.toList = t := by
    rw [← hR, Lib.extract_data, ← List.drop_drop, hl]
    show List.take _ t = t
    refine List.take_of_length_le ?_
    have := congrArg List.length hl
    have e : bs.data.toList.length = bs.size := rfl
    simp only [List.length_drop, List.length_cons] at this
    omega
  have hRs : R.size ≤ bs.size := by rw [← hR, ByteArray.size_extract]; omega
  have HC := Lib.hid (fun W => cut_any R 34 W (by omega))
  have hal := cutA_list R 34
  have has := cutA_size R 34
  obtain ⟨A, hA⟩ : ∃ A, cutA R 34 = A := ⟨_, rfl⟩
  obtain ⟨B, hB⟩ : ∃ B, cutB R 34 = B := ⟨_, rfl⟩
  obtain ⟨q, hq⟩ : ∃ q, cutQ R 34 = q := ⟨_, rfl⟩
  have hv : cutV R 34 = .tuple #[.string A, .string B, .bool q] := by unfold cutV; rw [hA, hB, hq]
  rw [hv] at HC
  rw [hA] at hal has
  have hup := upN_le R.data.toList 34
  have HP := Lib.hid (fun W => printable_any A W (by have : R.data.toList.length = R.size := rfl; omega))
  obtain ⟨p, hp⟩ : ∃ p, prnAll A.data.toList = p := ⟨_, rfl⟩
  rw [hp] at HP
  have HG : Hid (FormGives (bs.data.toList.drop a) (.returned (.tuple #[.agg #[.int .u8 3, .string A, .int .i64 0, .int .i64 0], .bool (q && p)]))) := Lib.hid (by
    have e1 : A.data.toList = textB3 t := by rw [hal, hRl]; rfl
    have e2 : q = decide ((textB3 t).length < t.length) := by rw [← hq]; unfold cutQ upN; rw [hRl]; rfl
    have e3 : p = (textB3 t).all prn := by rw [← hp, e1]; rfl
    have hn : nextT (c :: t) = if (decide ((textB3 t).length < t.length) && (textB3 t).all prn) = true then some (⟨3, textB3 t, 0⟩, (textB3 t).length + 2) else none := by
      simp only [nextT]
      rw [if_neg (by omega), if_neg (by omega), if_pos hc]
    rw [← e2, ← e3] at hn
    have hsz : A.size = (textB3 t).length := by rw [← e1]; rfl
    refine ⟨3, A, 0, _, rfl, ?_, fun x m h => ?_⟩
    · rw [hl, hn]; cases (q && p) <;> rfl
    · rw [hl, hn] at h
      cases hqp : (q && p) with
      | false => rw [hqp] at h; cases h
      | true => rw [hqp] at h; cases h; exact ⟨rfl, e1, rfl, by omega⟩)
  have c0 := hr.c0
  have c1 := hr.c1
  have hlt := hr.lt
  have z1 : (a : Int) + 1 ≤ (bs.size : Int) := by omega
  have z2 : (bs.size : Int) ≤ 999999 := by omega
  have HR := Lib.hid hR
  clear hr hbs ha hl hc hR hRl hRs hal has hA hB hq hv hup hp
  go_enter Tryd.func33, Tryd.ntmps33
  go_wp2
  go_quiet ((go_at_call 38; rw [HR.out]; exact Calls.quiet_of (HC.out _)))
  cases q with
  | false =>
    go_wp2
    exact bodyPost_ret (v := .tuple #[.agg #[.int .u8 3, .string A, .int .i64 0, .int .i64 0], .bool false]) (by simp [results, Tryd.results33, go_sem]) rfl ⟨HG.out, tokOut (drewN_below _ _) _ _ _ _⟩
  | true =>
    go_wp2_with (go_at_call 44; (with_reducible refine (HP.out _).mono ?_); rintro e w2 ⟨rfl, rfl⟩)
    exact bodyPost_ret (v := .tuple #[.agg #[.int .u8 3, .string A, .int .i64 0, .int .i64 0], .bool p]) (by simp [results, Tryd.results33, go_sem]) rfl ⟨HG.out, tokOut (drewN_below _ _) _ _ _ _⟩
end Go.Proofs.YtejjbbgompddeaaDoor
