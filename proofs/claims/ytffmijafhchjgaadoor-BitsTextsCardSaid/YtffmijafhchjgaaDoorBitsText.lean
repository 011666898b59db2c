/- Contract of Text of package bits. -/
import Derived.Test.YtffmijafhchjgaaDoorBitsItoa
namespace Go.Proofs.YtffmijafhchjgaaDoor
open Go.RowKit Go.Sort
set_option linter.unusedVariables false
set_option linter.unusedSimpArgs false

/-- A hexadecimal digit. -/
def hexD (d : Nat) : Nat := if d < 10 then 48 + d else 87 + d
/-- The digit number i of x, counted from the least significant one. -/
def digAt (x i : Nat) : Nat := hexD (x / 16 ^ i % 16)

theorem bytes_info : (Tryd.prog.info? 5).map (fun i => (i.zero, i.size, i.bytes)) = some (some (.int .u8 0), 1, 1) := by kernel_rfl

/-- The cells after k digits have been put in, from the end. -/
def rowAt (m x k : Nat) : List Value := (List.range m).map fun j => .int .u8 (if m ≤ j + k then (digAt x (m - 1 - j) : Nat) else 0 : Nat)
theorem rowAt_zero (m x : Nat) : rowAt m x 0 = List.replicate m (.int .u8 0) := by
  apply List.ext_getElem?
  intro j
  by_cases hj : j < m
  · have h : ¬ m ≤ j := by omega
    simp [rowAt, hj, h]
  · simp [rowAt, hj]
theorem rowAt_succ (m x k : Nat) (h : k < m) : rowAt m x (k + 1) = (rowAt m x k).set (m - 1 - k) (.int .u8 (digAt x k : Nat)) := by
  apply List.ext_getElem?
  intro j
  rw [List.getElem?_set]
  by_cases hj : j < m
  · by_cases he : m - 1 - k = j
    · subst he
      have h1 : m ≤ m - 1 - k + (k + 1) := by omega
      have h2 : m - 1 - (m - 1 - k) = k := by omega
      have h3 : m - 1 - k < m := by omega
      simp [rowAt, h1, h2, h3]
    · by_cases h1 : m ≤ j + k
      · have h2 : m ≤ j + (k + 1) := by omega
        simp [rowAt, hj, he, h1, h2]
      · have h2 : ¬ m ≤ j + (k + 1) := by omega
        simp [rowAt, hj, he, h1, h2]
  · simp [rowAt, hj]
    omega
theorem rowAt_get (m x k j : Nat) (hj : j < m) : (rowAt m x k)[j]? = some (.int .u8 (if m ≤ j + k then (digAt x (m - 1 - j) : Nat) else 0 : Nat)) := by
  simp [rowAt, hj]

theorem and_15 (x k : Nat) (hx : x < 18446744073709551616) : bits .and .u64 ((x : Int) / 2 ^ (4 * k)) 15 = ((x / 16 ^ k % 16 : Nat) : Int) := by
  have e : ((x : Int) / 2 ^ (4 * k)) = ((x / 16 ^ k : Nat) : Int) := by
    rw [Int.natCast_ediv, Int.natCast_pow, Int.pow_mul]; rfl
  have h := Nat.div_le_self x (16 ^ k)
  rw [e]
  have h2 := bits_and_u64_nat (x / 16 ^ k) 15 (by omega) (by decide)
  rw [show ((15 : Nat) : Int) = 15 from rfl] at h2
  rw [h2, show (15 : Nat) = 2 ^ 4 - 1 from rfl, Nat.and_two_pow_sub_one_eq_mod]
def hexDigits : ByteArray := ⟨#[48, 49, 50, 51, 52, 53, 54, 55, 56, 57, 97, 98, 99, 100, 101, 102]⟩
theorem hexDigits_at : ∀ d : Fin 16, (hexDigits[d.val]'(by have := d.isLt; exact this)).toNat = hexD d.val := by decide +kernel

/-- The digits of the value, and the whole text. -/
def hexL (m x : Nat) : List UInt8 := (List.range m).map fun j => UInt8.ofNat (digAt x (m - 1 - j))
def hexB (m x : Nat) : ByteArray := ⟨(hexL m x).toArray⟩
def textB (n x : Nat) : ByteArray := decB n ++ ⟨#[58]⟩ ++ hexB ((n + 3) / 4) x
theorem hexL_length (m x : Nat) : (hexL m x).length = m := by simp [hexL]
theorem hexB_size (m x : Nat) : (hexB m x).size = m := by simp [hexB, hexL, ByteArray.size]
theorem decB_size (n : Nat) : (decB n).size ≤ 2 := by unfold decB; split <;> simp [ByteArray.size]
theorem digAt_lt (x i : Nat) : digAt x i < 256 := by unfold digAt hexD; have := Nat.mod_lt (x / 16 ^ i) (show 0 < 16 by decide); split <;> omega
theorem hexL_get (m x j : Nat) (hj : j < (hexL m x).length) : ((hexL m x)[j].toNat : Int) = ((if m ≤ j + m then digAt x (m - 1 - j) else 0 : Nat) : Int) := by
  have h := digAt_lt x (m - 1 - j)
  rw [if_pos (by omega)]
  simp [hexL]
  omega
theorem conv_row (w : World) (g m x : Nat) (hc : ∀ j, j < m → w.cell? ⟨g, j, none⟩ = (rowAt m x m)[j]?) :
    (convert 45 9 (.slice (some ⟨g, 0, none⟩) m m)).run Tryd.prog w = .ok (.string (hexB m x)) w := by
  have h := run_convert_bytes_back (P := Tryd.prog) w 45 9 5 ⟨g, 0, none⟩ m (hexL m x) Tryd.underlying45 Tryd.underlying5 Tryd.underlying9 (fun j hj => by
    have hj' : j < m := by rw [hexL_length] at hj; exact hj
    have ha : (⟨g, 0, none⟩ : Addr).add j = ⟨g, j, none⟩ := by unfold Addr.add; split <;> simp_all
    rw [ha, hc j hj', rowAt_get m x m j hj', hexL_get])
  rw [hexL_length] at h
  exact h

set_option maxRecDepth 100000 in
theorem textP_ok (n x : Nat) (w : World) (h0 : 1 ≤ n) (h1 : n ≤ 64) (hx : x < 2 ^ n) :
    Calls Tryd.prog 5 #[.int .i64 n, .int .u64 x] w fun e w' => e = .returned (.tuple #[.string (textB n x), .int .i64 0]) ∧ Below w.heap.size w w' := by
  have c0 : (w.alloc (.cells #[.int .u64 x] 22)).cell? ⟨w.heap.size, 0, none⟩ = some (.int .u64 x) := by go_simp
  have HK := Lib.hid (check1 n x _ _ h0 h1 c0)
  have hx' : chk1 n x = 0 := by unfold chk1; rw [if_pos ((okB_iff _ _).2 hx)]
  rw [hx'] at HK
  have HX := Lib.hid hx
  clear hx c0 hx'
  obtain ⟨i0, hi, hz0, hz1, hz2⟩ := info_parts bytes_info
  go_enter Tryd.func5, Tryd.ntmps5
  go_wp2_with (first
    | (go_at_call 17; refine HK.out.mono ?_; rintro e w' ⟨rfl, rfl⟩)
    | (at_make; refine wpList_make_full _ rfl _ _ 45 rfl (w.heap.size + 1) 5 i0 (.int .u8 0) 1 Tryd.underlying45 hi hz0 hz1 _ _ _ _ ((n + 3) / 4) rfl rfl (by omega) (by omega) (by rw [hz2]; omega) (by unfold maxLen; omega) (by simp) ?_; intro w1 hown hgrow))
  have ho : w1.ownsRow (w.heap.size + 1) 5 1 (.slice (some ⟨w.heap.size + 1, 0, none⟩) ((n + 3) / 4) ((n + 3) / 4)) ((n + 3) / 4) (rowAt ((n + 3) / 4) x 0) := by
    rw [rowAt_zero]; simpa [Value.cells, toList_madeCells_one] using hown
  have hb : Below w.heap.size w w1 := ((Below.refl _ _).alloc (Nat.le_refl _) _).grown hgrow (by simp) (by simp)
  clear hown hgrow
  go_loopw [23] (fun i wr => ∃ k : Nat, k ≤ (n + 3) / 4 ∧ i = .int .i64 k ∧ wr.ownsRow (w.heap.size + 1) 5 1 (.slice (some ⟨w.heap.size + 1, 0, none⟩) ((n + 3) / 4) ((n + 3) / 4)) ((n + 3) / 4) (rowAt ((n + 3) / 4) x k) ∧ Below w.heap.size w wr)
    (fun i _ => (n + 3) / 4 - (intOf i).toNat)
  case atStart => exact ⟨0, Nat.zero_le _, rfl, ho, hb⟩
  case round =>
    obtain ⟨k, hk, rfl, hor, hbr⟩ := hrel
    clear ho hb
    by_cases hlt : k < (n + 3) / 4
    · have hc := hor.cellAt ((n + 3) / 4 - 1 - k) (by omega)
      rw [rowAt_get _ _ _ _ (by omega), if_neg (by omega)] at hc
      have hf := hor.frozenAt ((n + 3) / 4 - 1 - k)
      have HO := Lib.hid hor
      obtain ⟨d, hd⟩ : ∃ d : Nat, d = x / 16 ^ k % 16 := ⟨_, rfl⟩
      have hd1 : d < 16 := by omega
      have hand : bits .and .u64 ((x : Int) / 2 ^ (4 * k)) 15 = (d : Int) := by rw [hd]; exact and_15 x k (by have := pow_le n h1; have := HX.out; omega)
      have HD := Lib.hid hd
      have HB := Lib.hid hbr
      clear hor hd hbr
      go_wp2
      go_roundw
      case rel =>
        refine ⟨k + 1, by omega, by go_num, ?_, HB.out.setCell (by simp) _⟩
        rw [rowAt_succ _ _ _ hlt, digAt, ← HD.out, ← hexDigits_at ⟨d, hd1⟩]
        exact (HO.out.stored _ _).1
      case measure => simp [intOf]; omega
    · obtain rfl : k = (n + 3) / 4 := by omega
      go_wp2
      have hconv := fun d os => conv_row (grow (redrawn wr d) os) (w.heap.size + 1) ((n + 3) / 4) x (fun j hj => by
        have h := hor.cellAt j (by omega)
        rw [rowAt_get _ _ _ _ hj] at h ⊢
        exact cell_regrown h d os)
      have cI : ∀ d os, Calls Tryd.prog 18 #[.int .i64 n] (grow (redrawn wr d) os) fun e w'' => e = .returned (.string (decB n)) ∧ ∃ p : Regrown, w'' = grow (redrawn wr p.d) p.os :=
        fun d os => Calls.regrown_of ((itoa_any n _ (by omega)).mono fun e w' ⟨he, hw⟩ => ⟨he, hw ▸ Below.refl _ _⟩)
      have HCI := Lib.hid cI
      have E : Hid (textB n x = decB n ++ ⟨#[58]⟩ ++ hexB ((n + 3) / 4) x) := Lib.hid rfl
      have s1 := decB_size n
      have s2 := hexB_size ((n + 3) / 4) x
      generalize decB n = sd at *
      generalize hexB ((n + 3) / 4) x = sh at *
      have n1 : ¬ 9223372036854775807 < sd.size + 1 := by omega
      have n2 : ¬ 9223372036854775807 < sd.size + 1 + sh.size := by omega
      have HB := Lib.hid hbr
      clear cI hor hbr s1 s2 hk hlt
      refine wp_region_quiet_below (by kernel_rfl) (by kernel_rfl) ?_
      repeat (quiet_step (first | exact HCI.out _ _))
      refine wpQuiet_nil ?_
      intro _ hw'
      obtain ⟨⟨dq, osq⟩, hw''⟩ := hw'
      subst hw''
      go_wp2
      go_ret2
      refine ⟨?_, HB.out.trans ((below_regrown wr dq osq).mono HB.out.size)⟩
      rw [E.out]
      rfl
end Go.Proofs.YtffmijafhchjgaaDoor
