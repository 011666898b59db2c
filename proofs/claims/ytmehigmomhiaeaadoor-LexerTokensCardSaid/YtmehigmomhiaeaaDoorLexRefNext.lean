/- The reference's next. -/
import Derived.Test.YtmehigmomhiaeaaDoorLexRefPlus
import Derived.Test.YtmehigmomhiaeaaDoorLexRefName
import Derived.Test.YtmehigmomhiaeaaDoorLexTokens
import Derived.OwnWalk
namespace Go.Proofs.YtmehigmomhiaeaaDoor
open Go.RowKit
set_option linter.unusedVariables false
set_option linter.unusedSimpArgs false

/-- What next gives. -/
def NextGives (l : List UInt8) (a : Nat) (e : Ending) : Prop :=
  match nextT l with
  | some (x, n) => e = .returned (.tuple #[.agg #[.int .u8 (x.k : Nat), .string ⟨x.t.toArray⟩, .int .i64 x.n, .int .i64 (a : Nat)], .int .i64 (a + n : Nat), .bool true])
  | none => e = .returned (.tuple #[.agg #[.int .u8 0, .string ⟨#[]⟩, .int .i64 0, .int .i64 0], .int .i64 0, .bool false])
theorem nextGives_some {l : List UInt8} {a n : Nat} {x : Tk} {S : ByteArray} {K N E : Int} (h : nextT l = some (x, n)) (hS : S.data.toList = x.t) (hK : K = (x.k : Nat)) (hN : N = x.n) (hE : E = (a + n : Nat)) :
    NextGives l a (.returned (.tuple #[.agg #[.int .u8 K, .string S, .int .i64 N, .int .i64 (a : Nat)], .int .i64 E, .bool true])) := by
  unfold NextGives
  rw [h, hK, hN, hE]
  have : S = ⟨x.t.toArray⟩ := ba_eq (by rw [hS])
  rw [this]
theorem nextGives_none {l : List UInt8} {a : Nat} (h : nextT l = none) : NextGives l a (.returned (.tuple #[.agg #[.int .u8 0, .string ⟨#[]⟩, .int .i64 0, .int .i64 0], .int .i64 0, .bool false])) := by
  unfold NextGives; rw [h]

theorem cls_10 : cls 10 = 9 := by decide
theorem cls_34' : cls 34 = 7 := by decide
theorem cls_mark : ∀ c : Fin 256, markN c.val = true → c.val ≠ 10 ∧ cls c.val = 8 := by decide +kernel
theorem cls_let : ∀ c : Fin 256, letN c.val = true → cls c.val = 3 ∧ c.val ≠ 10 ∧ c.val ≠ 34 ∧ markN c.val = false := by decide +kernel
theorem cls_num : ∀ c : Fin 256, (digN c.val || c.val == 45) = true → (cls c.val = 4 ∨ cls c.val = 6) ∧ c.val ≠ 10 ∧ c.val ≠ 34 ∧ markN c.val = false ∧ letN c.val = false := by decide +kernel
theorem cls_rest : ∀ c : Fin 256, (c.val == 10 || markN c.val || c.val == 34 || letN c.val || digN c.val || c.val == 45) = false → (cls c.val == 9 || cls c.val == 8 || cls c.val == 7 || cls c.val == 3 || cls c.val == 4 || cls c.val == 6) = false := by decide +kernel
theorem byte_at {s : ByteArray} {a : Nat} {c : UInt8} {t : List UInt8} (ha : a < s.size) (hd : s.data.toList.drop a = c :: t) : s[a]'ha = c := by
  have h0 : s.data.toList[a]? = some (s[a]'ha) := by rw [Lib.data_getElem? s a ha]
  have h1 : s.data.toList[a]? = some c := by
    have := congrArg (fun l : List UInt8 => l[0]?) hd
    simpa using this
  exact Option.some.inj (h0.symm.trans h1)
theorem byte_ne' {n m : Nat} (h : n ≠ m) : ((n : Int) == (m : Int)) = false := by
  simp only [beq_eq_false_iff_ne]; intro e; apply h; omega
theorem ext_one {s : ByteArray} {a : Nat} {c : UInt8} {t : List UInt8} (hd : s.data.toList.drop a = c :: t) : (s.extract a (a + 1)).data.toList = [c] := by
  rw [Lib.extract_data, hd, show a + 1 - a = 1 by omega]; rfl

set_option maxHeartbeats 1000000 in
set_option maxRecDepth 100000 in
theorem refNext_line (s : ByteArray) (a : Nat) (w : World) (hs : s.size ≤ 999999) (ha : a < s.size) (t : List UInt8) (hd : s.data.toList.drop a = 10 :: t) :
    Calls Tryd.prog 33 #[.string s, .int .i64 a] w fun e w' => NextGives (s.data.toList.drop a) a e ∧ Below w.heap.size w w' := by
  have hc := byte_at ha hd
  have hn : nextT (10 :: t) = some (⟨5, [10], 0⟩, 1) := by simp only [nextT]; rw [if_pos (by decide)]
  have HX : Hid (NextGives (s.data.toList.drop a) a (.returned (.tuple #[.agg #[.int .u8 5, .string (s.extract a (a + 1)), .int .i64 0, .int .i64 (a : Nat)], .int .i64 ((a : Int) + 1), .bool true]))) :=
    Lib.hid (nextGives_some (by rw [hd]; exact hn) (ext_one hd) rfl rfl (by omega))
  clear hd hn
  go_enter Tryd.func33, Tryd.ntmps33
  go_wp2
  exact bodyPost_ret (by simp [results, Tryd.results33, go_sem]) rfl ⟨HX.out, ((Below.refl _ _).alloc (Nat.le_refl _) _).alloc (by simp) _⟩

set_option maxHeartbeats 1000000 in
set_option maxRecDepth 100000 in
theorem refNext_mark (s : ByteArray) (a : Nat) (w : World) (hs : s.size ≤ 999999) (ha : a < s.size) (c : UInt8) (t : List UInt8) (hd : s.data.toList.drop a = c :: t) (hm : markN c.toNat = true) :
    Calls Tryd.prog 33 #[.string s, .int .i64 a] w fun e w' => NextGives (s.data.toList.drop a) a e ∧ Below w.heap.size w w' := by
  have hc := byte_at ha hd
  obtain ⟨h10, h8⟩ := cls_mark ⟨c.toNat, c.toNat_lt⟩ hm
  have n10 : ((c.toNat : Int) == 10) = false := byte_ne' (m := 10) h10
  have hn : nextT (c :: t) = some (⟨4, [c], 0⟩, 1) := by simp only [nextT]; rw [if_neg (by simp only at h8; omega), if_pos h8]
  have HX : Hid (NextGives (s.data.toList.drop a) a (.returned (.tuple #[.agg #[.int .u8 4, .string (s.extract a (a + 1)), .int .i64 0, .int .i64 (a : Nat)], .int .i64 ((a : Int) + 1), .bool true]))) :=
    Lib.hid (nextGives_some (by rw [hd]; exact hn) (ext_one hd) rfl rfl (by omega))
  have HM := Lib.hid (fun W => refMark_any c.toNat W c.toNat_lt)
  rw [hm] at HM
  clear hd hn h8 h10 hm
  go_enter Tryd.func33, Tryd.ntmps33
  go_wp2_with (go_at_call 53; (with_reducible refine (HM.out _).mono ?_); rintro e w' ⟨rfl, rfl⟩)
  exact bodyPost_ret (by simp [results, Tryd.results33, go_sem]) rfl ⟨HX.out, ((Below.refl _ _).alloc (Nat.le_refl _) _).alloc (by simp) _⟩

set_option maxHeartbeats 1000000 in
set_option maxRecDepth 100000 in
theorem refNext_rest (s : ByteArray) (a : Nat) (w : World) (hs : s.size ≤ 999999) (ha : a < s.size) (c : UInt8) (t : List UInt8) (hd : s.data.toList.drop a = c :: t) (hm : (c.toNat == 10 || markN c.toNat || c.toNat == 34 || letN c.toNat || digN c.toNat || c.toNat == 45) = false) :
    Calls Tryd.prog 33 #[.string s, .int .i64 a] w fun e w' => NextGives (s.data.toList.drop a) a e ∧ Below w.heap.size w w' := by
  have hc := byte_at ha hd
  have hr := cls_rest ⟨c.toNat, c.toNat_lt⟩ hm
  simp only [Bool.or_eq_false_iff, beq_eq_false_iff_ne] at hr hm
  obtain ⟨⟨⟨⟨⟨h9, h8⟩, h7⟩, h3⟩, h4⟩, h6⟩ := hr
  obtain ⟨⟨⟨⟨⟨h10, hmk⟩, h34⟩, hlt⟩, hdg⟩, h45⟩ := hm
  have n10 : ((c.toNat : Int) == 10) = false := byte_ne' (m := 10) h10
  have n34 : ((c.toNat : Int) == 34) = false := byte_ne' (m := 34) h34
  have n45 : ((c.toNat : Int) == 45) = false := byte_ne' (m := 45) h45
  have hn : nextT (c :: t) = none := by simp only [nextT]; rw [if_neg h9, if_neg h8, if_neg h7, if_neg h3, if_neg (by rintro (e | e); exact h4 e; exact h6 e)]
  have HX := Lib.hid (nextGives_none (a := a) (l := s.data.toList.drop a) (by rw [hd]; exact hn))
  have HM := Lib.hid (fun W => refMark_any c.toNat W c.toNat_lt)
  have HL := Lib.hid (fun W => refLetter_any c.toNat W c.toNat_lt)
  have HG := Lib.hid (fun W => refDigit_any c.toNat W c.toNat_lt)
  rw [hmk] at HM
  rw [hlt] at HL
  rw [hdg] at HG
  clear hd hn h9 h8 h7 h3 h4 h6 h10 hmk h34 hlt hdg h45
  go_enter Tryd.func33, Tryd.ntmps33
  go_wp2_with (first
    | (go_at_call 53; (with_reducible refine (HM.out _).mono ?_); rintro e w' ⟨rfl, rfl⟩)
    | (go_at_call 54; (with_reducible refine (HL.out _).mono ?_); rintro e w' ⟨rfl, rfl⟩)
    | (go_at_call 55; (with_reducible refine (HG.out _).mono ?_); rintro e w' ⟨rfl, rfl⟩))
  exact bodyPost_ret (by simp [results, Tryd.results33, go_sem]) rfl ⟨HX.out, ((Below.refl _ _).alloc (Nat.le_refl _) _).alloc (by simp) _⟩
end Go.Proofs.YtmehigmomhiaeaaDoor
