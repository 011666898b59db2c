/- ParseInt in base sixteen at words; value of package lexer: the value of a number. -/
import Derived.Test.YtejjbbgompddeaaDoorLexHex
import Derived.Test.YtejjbbgompddeaaDoorLexFmt
import Derived.Test.YtejjbbgompddeaaDoorLexWord
import Derived.Test.YtejjbbgompddeaaDoorShelf
import Derived.Lib.SmallJoins
import Derived.Lib.AtoiErrMem
namespace Go.Proofs.YtejjbbgompddeaaDoor
open Go.RowKit
set_option linter.unusedVariables false
set_option linter.unusedSimpArgs false

def ErrsAt (w : World) : Prop := (∃ te pe, w.cell? ⟨2, 0, none⟩ = some (.iface te pe)) ∧ (∃ te pe, w.cell? ⟨3, 0, none⟩ = some (.iface te pe)) ∧ 2 < w.heap.size ∧ 3 < w.heap.size
theorem ErrsAt.below {w w' : World} (h : ErrsAt w) (hb : Below w.heap.size w w') : ErrsAt w' := by
  obtain ⟨⟨t1, p1, h1⟩, ⟨t2, p2, h2⟩, h3, h4⟩ := h
  exact ⟨⟨t1, p1, by rw [hb.cell (p := ⟨2, 0, none⟩) h3]; exact h1⟩, ⟨t2, p2, by rw [hb.cell (p := ⟨3, 0, none⟩) h4]; exact h2⟩, Nat.lt_of_lt_of_le h3 hb.size, Nat.lt_of_lt_of_le h4 hb.size⟩
/-- What the initialisers lay, as far as package lexer reads it. -/
structure LaidAt (w : World) : Prop where
  cls : ClsAt w
  errs : ErrsAt w
  tz : TzAt w
  tab : Lib.TabIs Tryd.prog w "internal/strconv.uint64pow10" .u64 Lib.pow10Tab
theorem LaidAt.below {w w' : World} (h : LaidAt w) (hb : Below w.heap.size w w') : LaidAt w' :=
  ⟨h.cls.below hb, h.errs.below hb, h.tz.below hb, Joins.tab_stays (g := 4) (by kernel_rfl) h.tab hb (Nat.le_refl _)⟩

theorem neq_error (t : TypeId) (x : Value) (w : World) : Sem.run Tryd.prog (binOp BinOp.neq 54 (Value.iface t x) Value.nilIface) w = .ok (.bool true) w := by kernel_rfl
theorem neq_guard (p q : Operand) (t : TypeId) (x : Value) (w : World) : Sem.run Tryd.prog (eqGuard BinOp.neq 54 p q (Value.iface t x) Value.nilIface) w = .ok () w := rfl
theorem eql_error (t : TypeId) (x : Value) (w : World) : Sem.run Tryd.prog (binOp BinOp.eql 54 (Value.iface t x) Value.nilIface) w = .ok (.bool false) w := by kernel_rfl
theorem eql_guard (p q : Operand) (t : TypeId) (x : Value) (w : World) : Sem.run Tryd.prog (eqGuard BinOp.eql 54 p q (Value.iface t x) Value.nilIface) w = .ok () w := rfl
theorem neq_21 (w : World) : Sem.run Tryd.prog (binOp BinOp.neq 54 (Value.iface 90 (.int .i64 2)) (Value.iface 90 (.int .i64 1))) w = .ok (.bool true) w := by kernel_rfl
theorem neq_11 (w : World) : Sem.run Tryd.prog (binOp BinOp.neq 54 (Value.iface 90 (.int .i64 1)) (Value.iface 90 (.int .i64 1))) w = .ok (.bool false) w := by kernel_rfl
theorem neq_21g (p q : Operand) (w : World) : Sem.run Tryd.prog (eqGuard BinOp.neq 54 p q (Value.iface 90 (.int .i64 2)) (Value.iface 90 (.int .i64 1))) w = .ok () w := by rfl
theorem neq_11g (p q : Operand) (w : World) : Sem.run Tryd.prog (eqGuard BinOp.neq 54 p q (Value.iface 90 (.int .i64 1)) (Value.iface 90 (.int .i64 1))) w = .ok () w := by rfl

theorem hexAcc_hexV : ∀ (bs : List UInt8) (a : Nat), Hexs bs → hexAcc a bs = some (bs.foldl (fun n c => 16 * n + hexD1 c.toNat) a)
  | [], a, _ => rfl
  | c :: t, a, h => by
    have hc := h c (by simp)
    have ih := hexAcc_hexV t (16 * a + hexD1 c.toNat) (fun x hx => h x (by simp [hx]))
    have hs : hexStep a c.toNat = some (16 * a + hexD1 c.toNat) := by
      unfold hexN digN at hc
      simp only [Bool.or_eq_true, Bool.and_eq_true, decide_eq_true_eq] at hc
      unfold hexStep hexD1 digN
      by_cases h1 : 48 ≤ c.toNat ∧ c.toNat ≤ 57
      · rw [if_pos h1, if_pos (by simpa using h1)]; congr 1; omega
      · rw [if_neg h1, if_pos (by omega), if_neg (by simpa using h1)]; congr 1; omega
    simp only [hexAcc, hs, Option.bind, List.foldl_cons]
    exact ih
/-- What ParseInt gives in base sixteen. -/
def IntGives (bs : List UInt8) (e : Ending) : Prop := ∃ (x : Int) (err : Value), e = .returned (.tuple #[.int .i64 x, err]) ∧ -9223372036854775808 ≤ x ∧ x ≤ 9223372036854775807 ∧ (err = .nilIface ∨ err = .iface 90 (.int .i64 1) ∨ err = .iface 90 (.int .i64 2)) ∧ (hexOk bs = true → err = .nilIface ∧ x = (hexV bs : Nat))

set_option maxRecDepth 100000 in
theorem iparse16_any (t : ByteArray) (w : World) (hmax : t.size ≤ 1000000) (hp : ∀ c, t.data.toList[0]? = some c → c.toNat ≠ 43 ∧ c.toNat ≠ 45) :
    Calls Tryd.prog 56 #[.string t, .int .i64 16, .int .i64 64] w fun e w' => IntGives t.data.toList e ∧ Below w.heap.size w w' := by
  by_cases hne : t.size = 0
  · obtain rfl : t = ⟨#[]⟩ := by
      cases t with | mk a => congr 1; exact Array.eq_empty_of_size_eq_zero hne
    go_enter Tryd.func56, Tryd.ntmps56
    go_wp2
    go_ret2
    exact ⟨⟨0, _, rfl, by decide, by decide, Or.inr (Or.inr rfl), fun h => absurd h (by decide)⟩, Below.refl _ _⟩
  have hemp : t.toList.isEmpty = false := by
    rw [← decide_eq_emptyBytes]
    exact decide_eq_false (fun h => hne (by rw [h]; rfl))
  have hib : 0 < t.size := by omega
  obtain ⟨c, hc⟩ : ∃ c : UInt8, t[0]'hib = c := ⟨_, rfl⟩
  have hd : t.data.toList[0]? = some c := by rw [Lib.data_getElem? t 0 hib, hc]
  obtain ⟨h43, h45⟩ := hp c hd
  have n43 : ((c.toNat : Int) == 43) = false := by simp; omega
  have n45 : ((c.toNat : Int) == 45) = false := by simp; omega
  have HX := Lib.hid (fun W => hex_any t W hmax)
  have hn1 := neq_error
  have hg1 := neq_guard
  have hn2 := neq_21
  have hn3 := neq_11
  have hg2 := neq_21g
  have hg3 := neq_11g
  have HL := Lib.hid (show t.data.toList.length = t.size from rfl)
  clear hp hd h43 h45 hne hmax
  go_enter Tryd.func56, Tryd.ntmps56
  go_wp2_with (go_at_call 64; ((with_reducible refine (HX.out _).mono ?_); rintro e w1 ⟨⟨u, err, rfl, hu, herr, hrest⟩, hb1⟩; have HB := Lib.hid hb1; have HU := Lib.hid hu; have HR := Lib.hid herr; have HQ := Lib.hid hrest; clear hb1 hu herr hrest))
  have HS : Hid (hexOk t.data.toList = true → err = .nilIface ∧ u = hexV t.data.toList ∧ u < 1152921504606846976) := Lib.hid (fun h => by
    obtain ⟨h1, h2, h3, h4⟩ := hexOk_iff.1 h
    have ha : hexAcc 0 t.data.toList = some (hexV t.data.toList) := hexAcc_hexV _ 0 h4
    obtain ⟨q1, q2⟩ := HQ.out _ h1 (by omega) ha
    exact ⟨q1, q2, by rw [q2]; exact (hexOk_back h).2⟩)
  obtain ⟨U, hU⟩ : ∃ U : Int, (u : Int) = U := ⟨_, rfl⟩
  rw [hU]
  have HV := Lib.hid hU
  have U0 : 0 ≤ U := by omega
  clear hU
  rcases HR.out with rfl | rfl | rfl
  · by_cases hbi : (9223372036854775808 : Int) ≤ U
    · skip
      go_wp2
      go_ret2
      exact ⟨⟨_, _, rfl, by decide, by decide, Or.inr (Or.inl rfl), fun h => by have := (HS.out h).2.2; have := HV.out; omega⟩, HB.out⟩
    · have hu2 : U ≤ 9223372036854775807 := by omega
      go_wp2
      go_ret2
      exact ⟨⟨U, _, rfl, by omega, by omega, Or.inl rfl, fun h => ⟨rfl, by rw [← HV.out, (HS.out h).2.1]⟩⟩, HB.out⟩
  · by_cases hbi : (9223372036854775808 : Int) ≤ U
    · skip
      go_wp2
      go_ret2
      exact ⟨⟨_, _, rfl, by decide, by decide, Or.inr (Or.inl rfl), fun h => by have := (HS.out h).2.2; have := HV.out; omega⟩, HB.out⟩
    · have hu2 : U ≤ 9223372036854775807 := by omega
      go_wp2
      go_ret2
      exact ⟨⟨U, _, rfl, by omega, by omega, Or.inl rfl, fun h => by have := (HS.out h).1; simp at this⟩, HB.out⟩
  · go_wp2
    go_ret2
    exact ⟨⟨0, _, rfl, by decide, by decide, Or.inr (Or.inr rfl), fun h => by have := (HS.out h).1; simp at this⟩, HB.out⟩

theorem toError_any (fn s : ByteArray) (k base : Int) (w : World) (hm : s.size ≤ 1000000) (he : ErrsAt w) (hk : k = 1 ∨ k = 2) :
    Calls Tryd.prog 57 #[.string fn, .string s, .int .i64 base, .int .i64 64, .iface 90 (.int .i64 k)] w fun e w' => (∃ t x, e = .returned (.iface t x)) ∧ Below w.heap.size w w' := by
  obtain ⟨⟨t1, p1, h1⟩, ⟨t2, p2, h2⟩, _, _⟩ := he
  rcases hk with rfl | rfl
  · exact (Tryd.strconv_toError_range fn s base 64 _ w (by omega) h2 (Or.inr ⟨_, _, rfl⟩)).mono fun e w' ⟨N, he, _, _, hb⟩ => ⟨⟨_, _, he⟩, hb⟩
  · exact (Tryd.strconv_toError_syntax fn s base 64 _ w (by omega) h1 (Or.inr ⟨_, _, rfl⟩)).mono fun e w' ⟨N, he, _, _, hb⟩ => ⟨⟨_, _, he⟩, hb⟩
/-- What the public ParseInt gives: a number and no error, or an error. -/
def PubGives (good : Bool) (v : Int) (e : Ending) : Prop := ∃ (x : Int) (err : Value), e = .returned (.tuple #[.int .i64 x, err]) ∧ -9223372036854775808 ≤ x ∧ x ≤ 9223372036854775807 ∧ (err = .nilIface ∨ ∃ t y, err = .iface t y) ∧ (good = true → err = .nilIface ∧ x = v)
set_option maxRecDepth 100000 in
theorem parse16_any (t : ByteArray) (w : World) (hmax : t.size ≤ 1000000) (hE : ErrsAt w) (hp : ∀ c, t.data.toList[0]? = some c → c.toNat ≠ 43 ∧ c.toNat ≠ 45) :
    Calls Tryd.prog 52 #[.string t, .int .i64 16, .int .i64 64] w fun e w' => PubGives (hexOk t.data.toList) (hexV t.data.toList : Nat) e ∧ Below w.heap.size w w' := by
  have HX := Lib.hid (fun W => iparse16_any t W hmax hp)
  have HT := Lib.hid (fun (W : World) (fn : ByteArray) (k : Int) (hE : ErrsAt W) (hk : k = 1 ∨ k = 2) => toError_any fn t k 16 W hmax hE hk)
  have HE := Lib.hid hE
  have hn := neq_error
  have hg := neq_guard
  clear hmax hE hp
  go_enter Tryd.func52, Tryd.ntmps52
  go_wp2_with (go_at_call 56; ((with_reducible refine (HX.out _).mono ?_); rintro e w1 ⟨⟨u, err, rfl, hu0, hu1, herr, hrest⟩, hb1⟩; have HB := Lib.hid hb1; have HU := Lib.hid (And.intro hu0 hu1); have HR := Lib.hid herr; have HQ := Lib.hid hrest; clear hb1 hu0 hu1 herr hrest))
  rcases HR.out with rfl | rfl | rfl
  · go_wp2
    go_ret2
    exact ⟨⟨u, .nilIface, rfl, HU.out.1, HU.out.2, Or.inl rfl, fun h => ⟨rfl, (HQ.out h).2⟩⟩, HB.out⟩
  · go_wp2_with (go_at_call 57; (with_reducible refine (HT.out _ _ _ (HE.out.below HB.out) (Or.inl rfl)).mono ?_); rintro e w2 ⟨⟨t, x, rfl⟩, hb2⟩)
    go_ret2
    exact ⟨⟨u, _, rfl, HU.out.1, HU.out.2, Or.inr ⟨_, _, rfl⟩, fun h => by have := (HQ.out h).1; simp at this⟩, HB.out.trans (hb2.mono HB.out.size)⟩
  · go_wp2_with (go_at_call 57; (with_reducible refine (HT.out _ _ _ (HE.out.below HB.out) (Or.inr rfl)).mono ?_); rintro e w2 ⟨⟨t, x, rfl⟩, hb2⟩)
    go_ret2
    exact ⟨⟨u, _, rfl, HU.out.1, HU.out.2, Or.inr ⟨_, _, rfl⟩, fun h => by have := (HQ.out h).1; simp at this⟩, HB.out.trans (hb2.mono HB.out.size)⟩
end Go.Proofs.YtejjbbgompddeaaDoor
