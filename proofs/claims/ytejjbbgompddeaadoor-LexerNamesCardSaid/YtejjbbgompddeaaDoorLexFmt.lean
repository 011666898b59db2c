/- FormatInt in base sixteen: the library's loop, for numbers below 2^60. -/
import Derived.Test.YtejjbbgompddeaaDoorLexClass
import Derived.Test.YtejjbbgompddeaaDoorLexNumMath
import Derived.OwnWalk
import Derived.KernelRfl
namespace Go.Proofs.YtejjbbgompddeaaDoor
open Go.RowKit
set_option linter.unusedVariables false
set_option linter.unusedSimpArgs false

def tzK : Nat := 15
def TzAt (w : World) : Prop := w.cell? ⟨6, 15, none⟩ = some (.int .u8 4) ∧ 6 < w.heap.size
theorem TzAt.below {w w' : World} (h : TzAt w) (hb : Below w.heap.size w w') : TzAt w' :=
  ⟨by rw [hb.cell (p := ⟨6, 15, none⟩) h.2]; exact h.1, Nat.lt_of_lt_of_le h.2 hb.size⟩
theorem tz64_any (w : World) (h : TzAt w) : Calls Tryd.prog 86 #[.int .u64 16] w fun e w' => e = .returned (.int .i64 4) ∧ w = w' := by
  have hc := h.1
  have e0 : bits BinOp.and IntKind.u64 16 (IntKind.u64.wrap (-16)) = 16 := by decide +kernel
  have e1 : IntKind.u64.wrap (16 * 285870213051353865) = 4573923408821661840 := by decide +kernel
  go_enter Tryd.func86, Tryd.ntmps86
  go_wp2
  go_ret
  exact ⟨rfl, rfl⟩
theorem tz_any (w : World) (h : TzAt w) : Calls Tryd.prog 83 #[.int .u64 16] w fun e w' => e = .returned (.int .i64 4) ∧ w = w' := by
  have HT := Lib.hid (tz64_any w h)
  clear h
  go_enter Tryd.func83, Tryd.ntmps83
  go_wp2_with (go_at_call 86; (with_reducible refine HT.out.mono ?_); rintro e w' ⟨rfl, rfl⟩)
  go_ret
  exact ⟨rfl, rfl⟩
theorem pow2_any (w : World) : Calls Tryd.prog 82 #[.int .i64 16] w fun e w' => e = .returned (.bool true) ∧ w = w' := by
  go_enter Tryd.func82, Tryd.ntmps82
  go_wp2
  go_ret
  exact ⟨rfl, rfl⟩

/-- The buffer's cells behind the digits T. -/
def rowH (T : List UInt8) : List Value := List.replicate (65 - T.length) (.int .u8 0) ++ T.map fun c => .int .u8 (c.toNat : Nat)
theorem rowH_len (T : List UInt8) (h : T.length ≤ 65) : (rowH T).length = 65 := by simp [rowH]; omega
theorem rowH_cons (T : List UInt8) (c : UInt8) (h : T.length < 65) : (rowH T).set (64 - T.length) (.int .u8 (c.toNat : Nat)) = rowH (c :: T) := by
  unfold rowH
  simp only [List.length_cons, List.map_cons]
  rw [show 65 - T.length = (64 - T.length) + 1 by omega, List.replicate_succ', List.append_assoc, List.set_append_right _ _ (by simp)]
  simp only [List.length_replicate, Nat.sub_self, List.singleton_append, List.set_cons_zero]
  rw [show 65 - (T.length + 1) = 64 - T.length by omega]
theorem rowH_zero (T : List UInt8) (j : Nat) (h : j < 65 - T.length) : (rowH T)[j]? = some (.int .u8 0) := by
  unfold rowH
  rw [List.getElem?_append_left (by simpa using h), List.getElem?_replicate, if_pos h]
theorem rowH_get (T : List UInt8) (j : Nat) (h : j < T.length) (h65 : T.length ≤ 65) : (rowH T)[65 - T.length + j]? = some (.int .u8 (T[j].toNat : Nat)) := by
  unfold rowH
  rw [List.getElem?_append_right (by simp)]
  simp [h]
theorem and15 (v : Nat) (hv : v < 18446744073709551616) : bits .and .u64 (v : Int) 15 = ((v % 16 : Nat) : Int) := by
  have h2 := bits_and_u64_nat v 15 hv (by decide)
  rw [show ((15 : Nat) : Int) = 15 from rfl] at h2
  rw [h2, show (15 : Nat) = 2 ^ 4 - 1 from rfl, Nat.and_two_pow_sub_one_eq_mod]
def digs36 : ByteArray := ⟨#[48, 49, 50, 51, 52, 53, 54, 55, 56, 57, 97, 98, 99, 100, 101, 102, 103, 104, 105, 106, 107, 108, 109, 110, 111, 112, 113, 114, 115, 116, 117, 118, 119, 120, 121, 122]⟩
theorem digs36_at : ∀ d : Fin 16, (digs36[d.val]'(by have := d.isLt; show d.val < 36; omega)).toNat = (hx d.val).toNat := by decide +kernel
/-- What the loop keeps. -/
def FmtTie (u v : Nat) (T : List UInt8) : Prop := hexDigits u = hexDigits v ++ T ∧ T.length ≤ 15 ∧ v < 16 ^ (16 - T.length)
theorem FmtTie.step {u v : Nat} {T : List UInt8} (h : FmtTie u v T) (hv : 16 ≤ v) : FmtTie u (v / 16) (hx (v % 16) :: T) ∧ T.length ≤ 14 := by
  obtain ⟨h1, h2, h3⟩ := h
  have hlt : T.length ≤ 14 := by
    rcases Nat.lt_or_ge T.length 15 with h | h
    · omega
    · rw [show 16 - T.length = 1 by omega] at h3; omega
  refine ⟨⟨?_, by simp; omega, ?_⟩, hlt⟩
  · rw [h1, hexDigits, dif_neg (by omega)]; simp
  · rw [show 16 - T.length = (16 - (hx (v % 16) :: T).length) + 1 by simp; omega, Nat.pow_succ] at h3
    rw [Nat.div_lt_iff_lt_mul (by decide)]; exact h3
theorem FmtTie.last {u v : Nat} {T : List UInt8} (h : FmtTie u v T) (hv : v < 16) : hexDigits u = hx v :: T := by rw [h.1, hexDigits_one hv]; rfl
theorem FmtTie.small {u v : Nat} {T : List UInt8} (h : FmtTie u v T) : v < 18446744073709551616 := by
  have : 16 ^ (16 - T.length) ≤ 16 ^ 16 := Nat.pow_le_pow_right (by decide) (by omega)
  have e : (16 : Nat) ^ 16 = 18446744073709551616 := by decide
  have := h.2.2; omega
theorem conv_hex (w : World) (g : Nat) (T : List UInt8) (h65 : T.length ≤ 65) (hc : ∀ j, j < 65 → w.cell? ⟨g, j, none⟩ = (rowH T)[j]?) :
    (convert 32 9 (.slice (some ⟨g, 65 - T.length, none⟩) T.length T.length)).run Tryd.prog w = .ok (.string ⟨T.toArray⟩) w := by
  exact run_convert_bytes_back (P := Tryd.prog) w 32 9 5 ⟨g, 65 - T.length, none⟩ T.length T Tryd.underlying32 Tryd.underlying5 Tryd.underlying9 (fun j hj => by
    have ha : (⟨g, 65 - T.length, none⟩ : Addr).add j = ⟨g, 65 - T.length + j, none⟩ := by unfold Addr.add; split <;> simp_all
    rw [ha, hc _ (by omega), rowH_get T j hj h65])

theorem slice65 (g k : Nat) (W : World) (h1 : 1 ≤ k) (h2 : k ≤ 65) :
    (Instr.sliceAt 111 (.pointer (some ⟨g, 0, none⟩)) (some (.int .i64 ((k : Int) - 1))) none none).run Tryd.prog W = .ok (.slice (some ⟨g, k - 1, none⟩) (65 - (k - 1)) (65 - (k - 1))) W := by
  have ht : Tryd.prog.underlying 111 = some (.array (Tryd.prog.arrayLen 111) (Tryd.prog.elem 111)) := by kernel_rfl
  have e65 : Tryd.prog.arrayLen 111 = 65 := by kernel_rfl
  have hs : (sizeOf (Tryd.prog.elem 111)).run Tryd.prog W = .ok 1 W := by kernel_rfl
  rw [run_sliceAt_array_l W 111 _ ht .i64 _ (by omega) (by rw [e65]; omega), hs]
  have en : ((k : Int) - 1).toNat = k - 1 := by omega
  have ha : (⟨g, 0, none⟩ : Addr).add (k - 1) = ⟨g, k - 1, none⟩ := by unfold Addr.add; split <;> simp_all
  simp only [Result.andThen, slicedAt, e65, en, Nat.mul_one, ha]
  rw [if_neg (by omega)]

set_option maxHeartbeats 1000000 in
set_option maxRecDepth 100000 in
theorem fmtBits_any (u : Nat) (w : World) (hu : u < 1152921504606846976) (hT : TzAt w) :
    Calls Tryd.prog 72 #[.slice none 0 0, .int .u64 u, .int .i64 16, .bool false, .bool false] w fun e w' => (∃ q : Value, e = .returned (.tuple #[q, .string ⟨(hexDigits u).toArray⟩])) ∧ Below w.heap.size w w' := by
  have HTZ := Lib.hid (fun W (hb : Below w.heap.size w W) => tz_any W (hT.below hb))
  have HP := Lib.hid (fun W => pow2_any W)
  have h0 : FmtTie u u [] := by
    have e : (16 : Nat) ^ 16 = 18446744073709551616 := by decide
    refine ⟨by simp, by simp, ?_⟩
    show u < 16 ^ 16
    omega
  have H0 := Lib.hid h0
  clear h0 hT hu
  go_enter Tryd.func72, Tryd.ntmps72
  go_wp2_with (first
    | (go_at_call 82; (with_reducible refine (HP.out _).mono ?_); rintro e w' ⟨rfl, rfl⟩)
    | (go_at_call 83; (with_reducible refine (HTZ.out _ ?_).mono ?_); (exact (Below.refl _ _).alloc (Nat.le_refl _) _); rintro e w' ⟨rfl, rfl⟩))
  have ho : (w.alloc (.cells ((List.replicate 65 (Value.int .u8 0)).toArray) 111)).ownsRow w.heap.size 111 65 (.slice (some ⟨w.heap.size, 0, none⟩) 1 1) 1 (rowH []) := by
    refine ⟨by simp [rowH], .inr ⟨w.heap.size, 1, (List.replicate 65 (Value.int .u8 0)).toArray, rfl, Nat.le_refl _, (MapKept.heap_alloc _ _).1, Nat.le_refl _, by unfold maxLen; omega, by simp, by simp [rowH]⟩⟩
  have hb : Below w.heap.size w (w.alloc (.cells ((List.replicate 65 (Value.int .u8 0)).toArray) 111)) := (Below.refl _ _).alloc (Nat.le_refl _) _
  go_loopw [1, 13] (fun vu vi wr => ∃ (v : Nat) (T : List UInt8) (k : Nat), vu = .int .u64 v ∧ vi = .int .i64 k ∧ Hid (k = 65 - T.length ∧ FmtTie u v T) ∧ wr.ownsRow w.heap.size 111 65 (.slice (some ⟨w.heap.size, 0, none⟩) 1 1) 1 (rowH T) ∧ Below w.heap.size w wr) (fun vu _ _ => (intOf vu).toNat)
  case atStart => exact ⟨u, [], 65, rfl, rfl, Lib.hid ⟨by simp, H0.out⟩, ho, hb⟩
  case round =>
    obtain ⟨v, T, k, rfl, rfl, HK, hor, hbr⟩ := hrel
    obtain ⟨hk, hT⟩ := HK.out
    have hv64 := hT.small
    have hT15 := hT.2.1
    clear ho hb
    by_cases hlt : 16 ≤ v
    · obtain ⟨hs, hT14⟩ := hT.step hlt
      have HS := Lib.hid hs
      have hf := hor.frozenAt (k - 1)
      have hc := hor.cellAt (k - 1) (by omega)
      rw [rowH_zero T (k - 1) (by omega)] at hc
      obtain ⟨d, hd⟩ : ∃ d, d = v % 16 := ⟨_, rfl⟩
      have hd1 : d < 16 := by omega
      have hand : bits .and .u64 (v : Int) 15 = (d : Int) := by rw [hd]; exact and15 v hv64
      have hk1 : 1 ≤ (k : Int) := by omega
      have hk2 : (k : Int) ≤ 65 := by omega
      have hv0 : (16 : Int) ≤ (v : Int) := by omega
      have HO := Lib.hid hor
      have HB := Lib.hid hbr
      have HD := Lib.hid (And.intro hd hk)
      clear hs hT hor hbr hd hk hlt hv64 HK
      go_wp2
      go_roundw
      case rel =>
        obtain ⟨hdd, hkk⟩ := HD.out
        refine ⟨v / 16, hx (v % 16) :: T, k - 1, by first | rfl | go_num | (congr 1; omega), by first | rfl | go_num | (congr 1; omega), Lib.hid ⟨by simp; omega, HS.out⟩, ?_, HB.out.setCell (Nat.le_refl _) _⟩
        rw [← rowH_cons T (hx (v % 16)) (by omega), ← hdd, ← digs36_at ⟨d, hd1⟩, show 64 - T.length = k - 1 by omega]
        exact (HO.out.stored _ _).1
      case measure => simp only [intOf]; omega
    · have HE := Lib.hid (hT.last (by omega))
      have hf := hor.frozenAt (k - 1)
      have hc := hor.cellAt (k - 1) (by omega)
      rw [rowH_zero T (k - 1) (by omega)] at hc
      have hv16 : v < 16 := by omega
      have hvi : (v : Int) < 16 := by omega
      have hk1 : 1 ≤ (k : Int) := by omega
      have hk2 : (k : Int) ≤ 65 := by omega
      have hv36 : v < 36 := by omega
      obtain ⟨y, hy⟩ : ∃ y : Nat, y = (digs36[v]'hv36).toNat := ⟨_, rfl⟩
      have hy2 : y = (hx v).toNat := hy.trans (digs36_at ⟨v, hv16⟩)
      have hst := (hor.stored (k - 1) (.int .u8 (y : Nat))).1
      have hrow : (rowH T).set (k - 1) (.int .u8 (y : Nat)) = rowH (hx v :: T) := by rw [hy2, show k - 1 = 64 - T.length by omega]; exact rowH_cons T (hx v) (by omega)
      rw [hrow] at hst
      have hconv := conv_hex _ w.heap.size (hx v :: T) (by simp; omega) (fun j hj => hst.cellAt j (by omega))
      rw [hy] at hconv
      unfold digs36 at hconv
      simp only [List.length_cons] at hconv
      rw [show 65 - (T.length + 1) = k - 1 by omega, show T.length + 1 = 65 - (k - 1) by omega] at hconv
      have HB := Lib.hid hbr
      have hsl := fun W => slice65 w.heap.size k W (by omega) (by omega)
      clear hst hT hor hbr hk HK hv64 hT15 hrow hy hy2
      go_wp2
      go_ret2
      exact ⟨⟨.slice none 0 0, by rw [HE.out]; rfl⟩, HB.out.setCell (Nat.le_refl _) _⟩

set_option maxRecDepth 100000 in
theorem ifmt16_any (u : Nat) (w : World) (hu : u < 1152921504606846976) (hT : TzAt w) :
    Calls Tryd.prog 58 #[.int .i64 u, .int .i64 16] w fun e w' => e = .returned (.string ⟨(hexDigits u).toArray⟩) ∧ Below w.heap.size w w' := by
  have HF := Lib.hid (fmtBits_any u w hu hT)
  have hu0 : (u : Int) < 1152921504606846976 := by omega
  have hneg : decide ((u : Int) < 0) = false := by simp
  clear hT hu
  go_enter Tryd.func58, Tryd.ntmps58
  go_wp2_with (go_at_call 72; (with_reducible refine HF.out.mono ?_); rintro e w1 ⟨⟨q, rfl⟩, hb1⟩)
  go_ret
  exact ⟨rfl, hb1⟩
set_option maxRecDepth 100000 in
theorem fmt16_any (u : Nat) (w : World) (hu : u < 1152921504606846976) (hT : TzAt w) :
    Calls Tryd.prog 53 #[.int .i64 u, .int .i64 16] w fun e w' => e = .returned (.string ⟨(hexDigits u).toArray⟩) ∧ Below w.heap.size w w' := by
  have HF := Lib.hid (ifmt16_any u w hu hT)
  clear hT hu
  go_enter Tryd.func53, Tryd.ntmps53
  go_wp2_with (go_at_call 58; (with_reducible refine HF.out.mono ?_); rintro e w1 ⟨rfl, hb1⟩)
  go_ret
  exact ⟨rfl, hb1⟩
end Go.Proofs.YtejjbbgompddeaaDoor
