/- isToken, isLine of package lexer; the comparison of tokens. -/
import Derived.Test.YtejjbbgompddeaaDoorLexTokens
import Derived.Test.YtejjbbgompddeaaDoorLexBackMath
import Derived.Test.YtejjbbgompddeaaDoorLexOpen
import Derived.Laws.StructEq
namespace Go.Proofs.YtejjbbgompddeaaDoor
open Go.RowKit Go.Instr
set_option linter.unusedVariables false
set_option linter.unusedSimpArgs false

/-- Are two tokens the same, as Go's == tells it? -/
def eqT (k k' n n' p p' : Int) (T T' : ByteArray) : Bool := k == k' && ((T.toList == T'.toList) && (n == n' && p == p'))
theorem tok_equal (k k' n n' p p' : Int) (T T' : ByteArray) (w : World) : (Op.equalIn 10000 29 (.agg #[.int .u8 k, .string T, .int .i64 n, .int .i64 p]) (.agg #[.int .u8 k', .string T', .int .i64 n', .int .i64 p'])).run Tryd.prog w =
    .ok (eqT k k' n n' p p' T T') w := by
  have u1 := Tryd.underlying5
  have u2 := Tryd.underlying9
  have u3 := Tryd.underlying3
  have a1 := Tryd.isAgg5
  have a2 := Tryd.isAgg9
  have a3 := Tryd.isAgg3
  have z1 := Tryd.sizeOf5
  have z2 := Tryd.sizeOf9
  have z3 := Tryd.sizeOf3
  have hS : Tryd.prog.underlying 29 = some (.struct (Tryd.prog.fieldsOf 29)) := by kernel_rfl
  have hp : Tryd.prog.stoodInHeld 29 = false := by kernel_rfl
  rw [show (10000 : Nat) = 9999 + 1 from rfl, run_equalIn_agg w 9999 29 _ _ hS hp]
  unfold eqT
  obtain ⟨c1, h1⟩ : ∃ c, (k == k') = c := ⟨_, rfl⟩
  obtain ⟨c2, h2⟩ : ∃ c, (T.toList == T'.toList) = c := ⟨_, rfl⟩
  obtain ⟨c3, h3⟩ : ∃ c, (n == n') = c := ⟨_, rfl⟩
  obtain ⟨c4, h4⟩ : ∃ c, (p == p') = c := ⟨_, rfl⟩
  rw [h1, h2, h3, h4]
  simp only [Program.fieldsOf, Tryd.underlying29]
  cases c1
  · go_simp
  cases c2
  · go_simp
  cases c3
  · go_simp
  · go_simp
    cases c4 <;> simp [h1, h2, h3, h4]
theorem tok_eql (k k' n n' p p' : Int) (T T' : ByteArray) (w : World) : (binOp .eql 29 (.agg #[.int .u8 k, .string T, .int .i64 n, .int .i64 p]) (.agg #[.int .u8 k', .string T', .int .i64 n', .int .i64 p'])).run Tryd.prog w =
    .ok (.bool (eqT k k' n n' p p' T T')) w := by
  rw [run_eql_struct, tok_equal]; rfl
theorem tok_neq (k k' n n' p p' : Int) (T T' : ByteArray) (w : World) : (binOp .neq 29 (.agg #[.int .u8 k, .string T, .int .i64 n, .int .i64 p]) (.agg #[.int .u8 k', .string T', .int .i64 n', .int .i64 p'])).run Tryd.prog w =
    .ok (.bool (!eqT k k' n n' p p' T T')) w := by
  rw [run_neq_struct, tok_equal]; rfl

theorem isLine_any (k n p : Int) (T : ByteArray) (w : World) :
    Calls Tryd.prog 22 #[.agg #[.int .u8 k, .string T, .int .i64 n, .int .i64 p]] w fun e w' => e = .returned (.bool (k == 5)) ∧ Below w.heap.size w w' := by
  go_enter Tryd.func22, Tryd.ntmps22
  go_wp2
  go_ret
  exact ⟨rfl, (Below.refl _ _).alloc (Nat.le_refl _) _⟩

/-- A token in memory, as the mathematics has it. -/
def rawTk (y : Raw) : Tk := ⟨y.k.toNat, y.t.data.toList, y.n⟩
theorem wrS_wr {y : Raw} (hy : 0 ≤ y.k) : (wrS y.k y.t).data.toList = wr (rawTk y) := by
  unfold wrS wr rawTk
  by_cases h : y.k = 3
  · rw [if_pos h, if_pos (show y.k.toNat = 3 by omega)]; simp
  · rw [if_neg h, if_neg (show ¬ y.k.toNat = 3 by omega)]
theorem wrS_size (k : Int) (T : ByteArray) : (wrS k T).size ≤ T.size + 2 := by
  unfold wrS
  split
  · rw [ByteArray.size_append, ByteArray.size_append]
    show 1 + T.size + 1 ≤ _
    omega
  · omega
theorem tok_same {y : Raw} (hy : 0 ≤ y.k) {x : Tk} {n : Nat} {T : ByteArray} (h : nextT (wr (rawTk y)) = some (x, n)) (hT : T.data.toList = x.t) : eqT (x.k : Nat) y.k x.n y.n 0 0 T y.t = tokB (rawTk y) := by
  rw [Bool.eq_iff_iff, tokB_iff]
  unfold eqT
  simp only [Bool.and_eq_true, beq_iff_eq, and_true, ByteArray.toList_eq]
  rw [h]
  have hn := (nextT_le h).2.2.1
  constructor
  · rintro ⟨h1, h2, h3⟩
    have e : x = rawTk y := by
      obtain ⟨xk, xt, xn⟩ := x
      simp only at h1 h2 h3 hT
      unfold rawTk
      rw [← h1, ← h2, ← h3, hT]; simp
    rw [← e, hn]
  · intro e
    have e2 := congrArg (fun o => (Option.getD o (rawTk y, 0)).1) e
    simp only [Option.getD_some] at e2
    subst e2
    refine ⟨by unfold rawTk; simp only; omega, ?_, rfl⟩
    exact hT

set_option maxHeartbeats 2000000 in
set_option maxRecDepth 100000 in
theorem isToken_any (r a M : Nat) (bs : ByteArray) (y : Raw) (w : World) (hr : RdAt w r bs a (some M)) (hF : FormsAt w r M) (hT : LaidOn w r) (hy : 0 ≤ y.k) (ht : y.t.size ≤ 100000) (hM : M ≠ r) :
    Calls Tryd.prog 21 #[.pointer (some ⟨r, 0, none⟩), .agg #[.int .u8 y.k, .string y.t, .int .i64 y.n, .int .i64 y.p]] w fun e w' => e = .returned (.bool (tokB (rawTk y))) ∧ (∃ bs' a', RdAt w' r bs' a' (some M)) ∧ w.grownBy w' (some r) := by
  have HW := Lib.hid (fun W => written_any y.k y.n y.p y.t W (by omega))
  have hsz := wrS_size y.k y.t
  have hsl := wrS_wr hy
  obtain ⟨S, hS⟩ : ∃ S, wrS y.k y.t = S := ⟨_, rfl⟩
  rw [hS] at HW hsz hsl
  obtain ⟨Z, hZ⟩ : ∃ Z, tokB (rawTk y) = Z := ⟨_, rfl⟩
  have HV : Hid (∀ x n (T : ByteArray), nextT S.data.toList = some (x, n) → T.data.toList = x.t → eqT (x.k : Nat) y.k x.n y.n 0 0 T y.t = Z) := Lib.hid (fun x n T h h2 => by rw [← hZ]; rw [hsl] at h; exact tok_same hy h h2)
  have HVn : Hid (nextT S.data.toList = none → Z = false) := Lib.hid (fun h => by
    rw [hsl] at h
    rw [← hZ, Bool.eq_false_iff]
    intro e
    rw [tokB_iff, h] at e
    cases e)
  rw [hZ]
  have HT := Lib.hid (fun W (hrd : RdAt W r S 0 (some M)) (hf : FormsAt W r M) (hlo : LaidOn W r) => token_any r 0 M S W hrd hf hlo (by omega) (Nat.zero_le _))
  obtain ⟨k, hk⟩ : ∃ k, y.k = k := ⟨_, rfl⟩
  obtain ⟨T0, hT0⟩ : ∃ T0, y.t = T0 := ⟨_, rfl⟩
  obtain ⟨n0, hn0⟩ : ∃ n0, y.n = n0 := ⟨_, rfl⟩
  obtain ⟨p0, hp0⟩ : ∃ p0, y.p = p0 := ⟨_, rfl⟩
  rw [hk, hT0, hn0, hp0] at HW
  rw [hk, hT0, hn0] at HV
  rw [hk, hT0, hn0, hp0]
  have hrl := hr.lt
  have HR := Lib.hid hr
  have HF := Lib.hid hF
  have HL := Lib.hid hT
  have hrb : r ≠ w.heap.size := by omega
  have hte := tok_eql
  clear hr hF hT hy ht hsz hsl hS hZ hk hT0 hn0 hp0
  go_enter Tryd.func21, Tryd.ntmps21
  go_wp2_with (first
    | (go_at_call 25; (with_reducible refine (HW.out _).mono ?_); rintro e w2 ⟨rfl, hw2⟩; have hb2 : Below w.heap.size w w2 := (by rw [← hw2]; exact ((Below.refl _ _).alloc (Nat.le_refl _) _).alloc (by simp) _); have hx2 : w2.heap[w.heap.size]? = some (.cells #[.int .u8 k, .string T0, .int .i64 n0, .int .i64 p0] 29 (0, 0)) := (by rw [← hw2]; exact (Below.heap_alloc _ _ _ (by simp)).trans (MapKept.heap_alloc w _).1); have HB2 := Lib.hid hb2; have HX2 := Lib.hid hx2; have c0 := (HR.out.below hb2).c0; have c1 := (HR.out.below hb2).c1; have f0 := (HR.out.below hb2).f0; have f1 := (HR.out.below hb2).f1; have x3 : w2.cell? ⟨w.heap.size, 3, none⟩ = some (.int .i64 p0) := (by simp [World.cell?, hx2]); have xf : ∀ o, w2.frozen? ⟨w.heap.size, o, none⟩ = false := (fun o => by simp [World.frozen?, hx2]); clear hb2 hx2 hw2)
    | (go_at_call 20; fail "stop"))
  have hMl : M < w.heap.size := lt_of_block HF.out
  have hg3 : w.grownBy (((w2.setCell ⟨r, 0, none⟩ (.string S)).setCell ⟨r, 1, none⟩ (.int .i64 0)).setCell ⟨w.heap.size, 3, none⟩ (.int .i64 0)) (some r) :=
    grown_set_new (grown_trans (grown_trans (grown_below HB2.out) (grown_set w2 ⟨r, 0, none⟩ _)) (grown_set _ ⟨r, 1, none⟩ _)) (p := ⟨w.heap.size, 3, none⟩) (Nat.le_refl _) _
  have hrd3 : RdAt (((w2.setCell ⟨r, 0, none⟩ (.string S)).setCell ⟨r, 1, none⟩ (.int .i64 0)).setCell ⟨w.heap.size, 3, none⟩ (.int .i64 0)) r S 0 (some M) := by
    have h := RdAt.set1' ((HR.out.below HB2.out).set0 S) 0 0 rfl
    unfold RdAt at h ⊢
    rw [Below.heap_setCell _ _ _ _ (show r ≠ w.heap.size from hrb)]
    exact h
  have hF3 : FormsAt (((w2.setCell ⟨r, 0, none⟩ (.string S)).setCell ⟨r, 1, none⟩ (.int .i64 0)).setCell ⟨w.heap.size, 3, none⟩ (.int .i64 0)) r M := by
    have h := HF.out.below HB2.out
    unfold FormsAt at h ⊢
    rw [Below.heap_setCell _ _ _ _ (show M ≠ w.heap.size by omega), Below.heap_setCell _ _ _ _ (show M ≠ r from hM), Below.heap_setCell _ _ _ _ (show M ≠ r from hM)]
    exact h
  have hx3 : (((w2.setCell ⟨r, 0, none⟩ (.string S)).setCell ⟨r, 1, none⟩ (.int .i64 0)).setCell ⟨w.heap.size, 3, none⟩ (.int .i64 0)).heap[w.heap.size]? = some (.cells #[.int .u8 k, .string T0, .int .i64 n0, .int .i64 0] 29 (0, 0)) := by
    refine set_block (xs := #[.int .u8 k, .string T0, .int .i64 n0, .int .i64 p0]) ?_ 3 _ rfl
    rw [Below.heap_setCell _ _ _ _ (show w.heap.size ≠ r by omega), Below.heap_setCell _ _ _ _ (show w.heap.size ≠ r by omega)]
    exact HX2.out
  have hlo3 := HL.out.on hg3
  refine (HT.out _ hrd3 hF3 hlo3).mono ?_
  rintro e w4 ⟨ht, hg4⟩
  have hx4 := (hg4.block _ (lt_of_block hx3) (by simp; omega)).trans hx3
  have HG := Lib.hid (grown_trans hg3 hg4)
  have x0 : w4.cell? ⟨w.heap.size, 0, none⟩ = some (.int .u8 k) := by simp [World.cell?, hx4]
  have x1 : w4.cell? ⟨w.heap.size, 1, none⟩ = some (.string T0) := by simp [World.cell?, hx4]
  have x2 : w4.cell? ⟨w.heap.size, 2, none⟩ = some (.int .i64 n0) := by simp [World.cell?, hx4]
  have x4 : w4.cell? ⟨w.heap.size, 3, none⟩ = some (.int .i64 0) := by simp [World.cell?, hx4]
  have hl4 : w.heap.size < w4.heap.size := lt_of_block hx4
  unfold TokGives at ht
  rw [List.drop_zero] at ht
  clear hg3 hrd3 hF3 hx3 hlo3 hg4 hx4 c0 c1 f0 f1 x3 xf
  cases hn : nextT S.data.toList with
  | none =>
    rw [hn] at ht
    obtain ⟨rfl, hrd4⟩ := ht
    have HZ := Lib.hid (HVn.out hn)
    have HR4 := Lib.hid hrd4
    clear hn hrd4
    go_wp2
    go_ret
    exact ⟨by rw [HZ.out]; rfl, ⟨_, _, HR4.out.below ((Below.refl _ _).alloc (Nat.le_refl _) _)⟩, grown_alloc HG.out _⟩
  | some q =>
    obtain ⟨x, n⟩ := q
    rw [hn] at ht
    obtain ⟨T, rfl, hT, hrd4⟩ := ht
    have HZ := Lib.hid (HV.out x n T hn hT)
    have HR4 := Lib.hid hrd4
    clear hn hrd4 hT
    go_wp2
    go_ret
    exact ⟨by rw [HZ.out]; rfl, ⟨_, _, HR4.out.below ((Below.refl _ _).alloc (Nat.le_refl _) _)⟩, grown_alloc HG.out _⟩
end Go.Proofs.YtejjbbgompddeaaDoor
