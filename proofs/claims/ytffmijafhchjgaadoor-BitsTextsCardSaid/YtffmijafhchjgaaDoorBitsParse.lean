/- Contract of Parse of package bits at the text of a valid bit vector. -/
import Derived.Test.YtffmijafhchjgaaDoorBitsHex
import Derived.Test.YtffmijafhchjgaaDoorPlayCut
import Derived.Lib.Bytealg
import Derived.KernelRfl
import Derived.BigQuiet
import Derived.Deep.QuietTactic
import Derived.OwnWalk
namespace Go.Proofs.YtffmijafhchjgaaDoor
open Go.RowKit Go.Sort
set_option linter.unusedVariables false

-- a byte in a list
theorem indexByte_at (c : UInt8) (b : List UInt8) : ∀ a : List UInt8, (∀ x ∈ a, x ≠ c) → Lib.indexByte (a ++ c :: b) c = (a.length : Int)
  | [], _ => by simp [Lib.indexByte]
  | x :: a, h => by
    have ih := indexByte_at c b a (fun y hy => h y (List.mem_cons_of_mem _ hy))
    have hx : (x == c) = false := by simpa using h x (List.mem_cons_self ..)
    simp only [List.cons_append, Lib.indexByte, hx, ih, List.length_cons]
    have : ((a.length : Int) == -1) = false := by simp
    rw [this]
    simp

set_option maxRecDepth 100000 in
theorem lindex_any (s : ByteArray) (c : UInt8) (w : World) :
    Calls Tryd.prog 54 #[.string s, .int .u8 (c.toNat : Nat)] w fun e w' => e = .returned (.int .i64 (Lib.indexByte s.data.toList c)) ∧ w = w' := by
  go_enter Tryd.func54, Tryd.ntmps54
  go_wp2
  rw [run_callFunc_extern Tryd.func67 (by kernel_rfl) (by kernel_rfl) (by kernel_rfl) (e := Extern.BytealgIndexByte.indexByte) (by kernel_rfl), Lib.run_indexByteString]
  simp only [Result.andThen]
  rw [Oper.upon_value]
  go_wp2
  go_ret
  exact ⟨by simp, rfl⟩

set_option maxRecDepth 100000 in
theorem index_any (s : ByteArray) (w : World) :
    Calls Tryd.prog 41 #[.string s, .string ⟨#[58]⟩] w fun e w' => e = .returned (.int .i64 (Lib.indexByte s.data.toList 58)) ∧ w = w' := by
  cases hne : ([58] == s.toList) with
  | true =>
    have e : Lib.indexByte s.data.toList 58 = 0 := by
      rw [← ByteArray.toList_eq, ← (by simpa using hne : [58] = s.toList)]
      rfl
    rw [e]
    clear e
    go_enter Tryd.func41, Tryd.ntmps41
    go_wp2
    go_ret
    exact ⟨rfl, rfl⟩
  | false =>
    have HI := Lib.hid (fun W => lindex_any s 58 W)
    go_enter Tryd.func41, Tryd.ntmps41
    go_wp2_with (go_at_call 54; refine (HI.out _).mono ?_; rintro e w' ⟨rfl, rfl⟩)
    go_ret
    exact ⟨rfl, rfl⟩

theorem ba_eq {a b : ByteArray} (h : a.data.toList = b.data.toList) : a = b := by
  obtain ⟨x⟩ := a
  obtain ⟨y⟩ := b
  exact congrArg ByteArray.mk (Array.toList_inj.1 h)

theorem cut_parts (s a b : ByteArray) (hs : s = a ++ ⟨#[58]⟩ ++ b) (ha : ∀ x ∈ a.data.toList, x ≠ 58) :
    s.size = a.size + 1 + b.size ∧ Lib.indexByte s.data.toList 58 = ((a.size : Nat) : Int) ∧ s.extract 0 a.size = a ∧ s.extract (a.size + 1) s.size = b := by
  have hal : a.data.toList.length = a.size := rfl
  have hbl : b.data.toList.length = b.size := rfl
  have hd : s.data.toList = a.data.toList ++ 58 :: b.data.toList := by rw [hs]; simp
  have hsz : s.size = a.size + 1 + b.size := by
    have : s.data.toList.length = s.size := rfl
    rw [← this, hd, List.length_append, List.length_cons]
    omega
  have hi : Lib.indexByte s.data.toList 58 = ((a.size : Nat) : Int) := by rw [hd]; exact indexByte_at 58 _ _ ha
  have e1 : s.extract 0 a.size = a := ba_eq (by rw [Lib.extract_data, hd, List.drop_zero, Nat.sub_zero, List.take_append_of_le_length (by omega), List.take_of_length_le (by omega)])
  have e2 : s.extract (a.size + 1) s.size = b := ba_eq (by
    rw [Lib.extract_data, hd, List.drop_append, List.drop_of_length_le (by omega), List.nil_append, hal, show a.size + 1 - a.size = 1 by omega]
    show List.take _ b.data.toList = _
    exact List.take_of_length_le (by omega))
  exact ⟨hsz, hi, e1, e2⟩

set_option maxRecDepth 100000 in
/-- Cut of package strings at a colon that lies behind a and before b. -/
theorem lcut_any (s a b : ByteArray) (i m : Nat) (w : World) (hi : Lib.indexByte s.data.toList 58 = (i : Int)) (hm : s.size = m) (him : i + 1 ≤ m) (hmax : m ≤ 1000) (e1 : s.extract 0 i = a) (e2 : s.extract (i + 1) m = b) :
    Calls Tryd.prog 35 #[.string s, .string ⟨#[58]⟩] w fun e w' => e = .returned (.tuple #[.string a, .string b, .bool true]) ∧ Below w.heap.size w w' := by
  have HI := Lib.hid (fun W => index_any s W)
  rw [hi] at HI
  have c2 : (i : Int) ≤ (m : Int) := by omega
  have c4 : (i : Int) + 1 ≤ (m : Int) := by omega
  have HE := Lib.hid (And.intro e1 e2)
  clear hi e1 e2
  go_enter Tryd.func35, Tryd.ntmps35
  go_wp2_with (go_at_call 41; with_reducible refine (HI.out _).mono ?_; rintro e w' ⟨rfl, rfl⟩)
  go_quiet (fail)
  go_wp2
  go_ret3
  obtain ⟨e1, e2⟩ := HE.out
  exact ⟨by rw [← e1, ← e2]; rfl, ⟨rfl, rfl, rfl, Nat.le_refl _, fun _ _ => rfl⟩⟩

set_option maxRecDepth 100000 in
theorem scut_any (s a b : ByteArray) (w : World) (hs : s = a ++ ⟨#[58]⟩ ++ b) (ha : ∀ x ∈ a.data.toList, x ≠ 58) (h1 : 1 ≤ a.size) (hm : s.size ≤ 1000) :
    Calls Tryd.prog 21 #[.string s, .string ⟨#[58]⟩] w fun e w' => e = .returned (.tuple #[.string a, .string b, .bool true]) ∧ Below w.heap.size w w' := by
  obtain ⟨hsz, hi, e1, e2⟩ := cut_parts s a b hs ha
  have HC := Lib.hid (fun W => lcut_any s a b a.size s.size W hi rfl (by omega) hm e1 e2)
  clear hs ha h1 hm hsz hi e1 e2
  go_enter Tryd.func21, Tryd.ntmps21
  go_wp2_with (go_at_call 35; with_reducible refine (HC.out _).mono ?_; rintro e w1 ⟨rfl, hb1⟩)
  go_ret3
  exact ⟨rfl, hb1⟩

-- numbers below 65, read by the library: one run for each
def gives (n : Nat) (o : Option Value) : Bool := match o with
  | some (.tuple xs) => match xs.toList with
    | [.int .i64 z, .nilIface] => z == (n : Int)
    | _ => false
  | _ => false
theorem gives_eq {n : Nat} {o : Option Value} (h : gives n o = true) : o = some (.tuple #[.int .i64 n, .nilIface]) := by
  unfold gives at h
  split at h
  · rename_i xs
    split at h
    · rename_i z e
      have : z = (n : Int) := by simpa using h
      rw [← this, ← e]
    · cases h
  · cases h
theorem atoi_runs : ((List.range 65).all fun n => gives n (Go.Play.litOf (Go.Play.start Tryd.prog [] 100000 22 [.lit (.string (decB n))] (.mk .e .nil)))) = true := by kernel_rfl
theorem atoi_any (n : Nat) (w : World) (h : n < 65) :
    Calls Tryd.prog 22 #[.string (decB n)] w fun e w' => e = .returned (.tuple #[.int .i64 n, .nilIface]) ∧ Below w.heap.size w w' :=
  Go.Play.play_lit (args := [.string (decB n)]) (gives_eq (List.all_eq_true.1 atoi_runs n (List.mem_range.2 h))) w (fun g cs hg => by cases hg)

-- digits of sixteen
theorem hexStep_dig (a : Nat) : ∀ d, d < 16 → hexStep a (UInt8.ofNat (hexD d)).toNat = some (a * 16 + d) := by
  intro d hd
  have e : (UInt8.ofNat (hexD d)).toNat = hexD d := by
    have : hexD d < 256 := by unfold hexD; split <;> omega
    simp; omega
  rw [e]
  unfold hexStep hexD
  split
  · rename_i h
    rw [if_pos (by omega)]
    congr 2
    omega
  · rw [if_neg (by omega), if_pos (by omega)]
    congr 2
    omega
theorem hexL_succ (m x : Nat) : hexL (m + 1) x = UInt8.ofNat (digAt x m) :: hexL m x := by
  unfold hexL
  rw [List.range_succ_eq_map, List.map_cons, List.map_map]
  congr 1
  exact List.map_congr_left fun j _ => by
    show UInt8.ofNat (digAt x (m + 1 - 1 - (j + 1))) = UInt8.ofNat (digAt x (m - 1 - j))
    rw [show m + 1 - 1 - (j + 1) = m - 1 - j by omega]
theorem hexAcc_text (x : Nat) : ∀ m a, hexAcc a (hexL m x) = some (a * 16 ^ m + x % 16 ^ m)
  | 0, a => by simp [hexL, hexAcc, Nat.mod_one]
  | m + 1, a => by
    rw [hexL_succ, hexAcc, digAt, hexStep_dig a _ (Nat.mod_lt _ (by decide)), Option.bind_some, hexAcc_text x m, Nat.mod_pow_succ, Nat.pow_succ]
    congr 1
    rw [Nat.add_mul]
    have e1 : a * 16 * 16 ^ m = a * (16 ^ m * 16) := by rw [Nat.mul_assoc, Nat.mul_comm 16]
    have e2 : x / 16 ^ m % 16 * 16 ^ m = 16 ^ m * (x / 16 ^ m % 16) := Nat.mul_comm _ _
    omega
set_option maxRecDepth 100000 in
theorem parseUint_any (m x : Nat) (w : World) (h1 : 1 ≤ m) (h2 : m ≤ 16) (hx : x < 16 ^ m) :
    Calls Tryd.prog 23 #[.string (hexB m x), .int .i64 16, .int .i64 64] w fun e w' => e = .returned (.tuple #[.int .u64 x, .nilIface]) ∧ Below w.heap.size w w' := by
  have hsz : (hexB m x).size = m := hexB_size m x
  have hacc : hexAcc 0 (hexB m x).data.toList = some x := by
    show hexAcc 0 (hexL m x).toArray.toList = some x
    rw [List.toList_toArray, hexAcc_text, Nat.zero_mul, Nat.zero_add, Nat.mod_eq_of_lt hx]
  have hlen : (hexB m x).data.toList.length = m := hsz
  have HC : Hid (∀ W : World, Calls Tryd.prog 38 #[.string (hexB m x), .int .i64 16, .int .i64 64] W fun e w' => e = .returned (.tuple #[.int .u64 x, .nilIface]) ∧ Below W.heap.size W w') :=
    Lib.hid fun W => (hex_any (hexB m x) W (by omega)).mono fun e w' ⟨hg, hb⟩ => by
      obtain ⟨u, err, he, _, _, hu⟩ := hg
      obtain ⟨rfl, rfl⟩ := hu x (by omega) (by omega) hacc
      exact ⟨he, hb⟩
  clear hacc hlen hsz h1 h2 hx
  generalize hexB m x = t at *
  go_enter Tryd.func23, Tryd.ntmps23
  go_wp2_with (go_at_call 38; with_reducible refine (HC.out _).mono ?_; rintro e w1 ⟨rfl, hb1⟩)
  go_ret2
  exact ⟨rfl, hb1⟩

theorem decB_plain : ∀ n : Fin 65, (decB n.val).data.toList.all (fun x => x != 58) = true := by decide +kernel
theorem decB_one (n : Nat) : 1 ≤ (decB n).size := by unfold decB; split <;> simp [ByteArray.size]

set_option maxRecDepth 100000 in
theorem parse_text (n x : Nat) (w : World) (h0 : 1 ≤ n) (h1 : n ≤ 64) (hx : x < 2 ^ n) :
    Calls Tryd.prog 7 #[.string (textB n x)] w fun e w' => e = .returned (.tuple #[.int .i64 n, .int .u64 x, .int .i64 0]) ∧ Below w.heap.size w w' := by
  obtain ⟨s, hs⟩ : ∃ s, s = textB n x := ⟨_, rfl⟩
  have hsz : s.size ≤ 1000 := by
    have e1 := decB_size n
    have e2 := hexB_size ((n + 3) / 4) x
    rw [hs, textB, ByteArray.size_append, ByteArray.size_append, e2]
    have : (⟨#[58]⟩ : ByteArray).size = 1 := rfl
    omega
  have HT := Lib.hid (fun W => textP_ok n x W h0 h1 hx)
  rw [← hs] at HT ⊢
  have HC := Lib.hid (fun W => scut_any s (decB n) (hexB ((n + 3) / 4) x) W hs (fun y hy => by simpa using List.all_eq_true.1 (decB_plain ⟨n, by omega⟩) y hy) (decB_one n) hsz)
  have HA := Lib.hid (fun W => atoi_any n W (by omega))
  have HP := Lib.hid (fun W => parseUint_any ((n + 3) / 4) x W (by omega) (by omega) (Nat.lt_of_lt_of_le hx (by
    rw [show (16 : Nat) = 2 ^ 4 from rfl, ← Nat.pow_mul]
    exact Nat.pow_le_pow_right (by decide) (by omega))))
  clear hs hsz h0 h1 hx
  generalize decB n = a at *
  generalize hexB ((n + 3) / 4) x = b at *
  go_enter Tryd.func7, Tryd.ntmps7
  go_wp2_with (first
    | (go_at_call 21; with_reducible refine (HC.out _).mono ?_; rintro e w1 ⟨rfl, hb1⟩)
    | (go_at_call 22; with_reducible refine (HA.out _).mono ?_; rintro e w2 ⟨rfl, hb2⟩)
    | (go_at_call 23; with_reducible refine (HP.out _).mono ?_; rintro e w3 ⟨rfl, hb3⟩)
    | (go_at_call 5; with_reducible refine (HT.out _).mono ?_; rintro e w4 ⟨rfl, hb4⟩))
  go_ret3
  exact ⟨rfl, hb1.trans ((hb2.trans ((hb3.trans (hb4.mono hb3.size)).mono hb2.size)).mono hb1.size)⟩
end Go.Proofs.YtffmijafhchjgaaDoor
