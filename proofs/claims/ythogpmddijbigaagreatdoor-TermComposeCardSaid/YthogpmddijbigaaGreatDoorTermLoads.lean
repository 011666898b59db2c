/- Contracts of loaded and Load of package term. -/
import Derived.Test.YthogpmddijbigaaGreatDoorTermLoad
import Derived.Test.YthogpmddijbigaaGreatDoorBitsOk
namespace Go.Proofs.YthogpmddijbigaaGreatDoor
open Go.RowKit
set_option linter.unusedVariables false

theorem isLoaded_yes (k : Int) (w : World) (h : k = 8 ∨ k = 16 ∨ k = 32 ∨ k = 64) : Calls Tryz.prog 44 #[.int .i64 k] w fun e w' => e = .returned (.bool true) ∧ w = w' := by
  rcases h with rfl | rfl | rfl | rfl <;>
  · go_enter Tryz.func44, Tryz.ntmps44
    go_wp2
    go_ret
    exact ⟨rfl, rfl⟩
theorem isWidthT_yes (n : Nat) (w : World) (h0 : 1 ≤ n) (h1 : n ≤ 64) : Calls Tryz.prog 43 #[.int .i64 n] w fun e w' => e = .returned (.bool true) ∧ w = w' := by
  have hx : okB n 0 = true := by rw [okB_iff]; exact pow_pos' n
  have HO := Lib.hid (fun W => ok_any n 0 W h0 h1)
  rw [hx] at HO
  go_enter Tryz.func43, Tryz.ntmps43
  go_wp2_with (go_at_call 10; refine (HO.out _).mono ?_; rintro e w' ⟨rfl, rfl⟩)
  go_ret
  exact ⟨rfl, rfl⟩

/-- The address i bytes on. -/
def adr (n a i : Nat) : Nat := (a + i) % 2 ^ n
theorem adr_val (n a i : Nat) (h1 : n ≤ 64) : bits .and .u64 (IntKind.u64.wrap ((a : Int) + (i : Int))) ((mk n : Nat) : Int) = ((adr n a i : Nat) : Int) := by
  have e : IntKind.u64.wrap ((a : Int) + (i : Int)) = (((a + i) % 18446744073709551616 : Nat) : Int) := by rw [IntKind.wrap_u64]; omega
  rw [e, bits_and_u64_nat _ (mk n) (Nat.mod_lt _ (by decide)) (mk_lt n h1)]
  unfold mk adr
  rw [Nat.and_two_pow_sub_one_eq_mod]
  have hd : 2 ^ n ∣ 18446744073709551616 := by
    have := pow_split n h1
    exact ⟨_, this.symm⟩
  rw [Nat.mod_mod_of_dvd _ hd]
theorem or_val (f : Nat → Nat) (hf : ∀ i, f i < 256) (j : Nat) (hj : j < 8) : bits .or .u64 ((part f j : Nat) : Int) (((f j * 2 ^ (8 * j) : Nat) : Int)) = ((part f (j + 1) : Nat) : Int) := by
  have h1 := part_64 f hf j (by omega)
  have h2 := part_64 f hf (j + 1) (by omega)
  have h3 : f j * 2 ^ (8 * j) ≤ part f (j + 1) := by rw [part_succ]; omega
  rw [bits_or_u64_nat _ _ h1 (by omega), part_or f hf]

theorem or_go (f : Nat → Nat) (hf : ∀ i, f i < 256) (j : Nat) (hj : j < 8) :
    bits .or .u64 ((part f j : Nat) : Int) (IntKind.u64.wrap (IntKind.u64.wrap (f j : Int) * 2 ^ min (IntKind.u64.wrap (8 * (j : Int))).toNat 64)) = ((part f (j + 1) : Nat) : Int) := by
  have h2 := part_64 f hf (j + 1) (by omega)
  have h3 : f j * 2 ^ (8 * j) ≤ part f (j + 1) := by rw [part_succ]; omega
  have hfj := hf j
  have e1 : IntKind.u64.wrap (f j : Int) = (f j : Int) := by rw [IntKind.wrap_u64]; omega
  have e2 : IntKind.u64.wrap (8 * (j : Int)) = ((8 * j : Nat) : Int) := by rw [IntKind.wrap_u64]; omega
  have e3 : min ((8 * j : Nat) : Int).toNat 64 = 8 * j := by rw [Int.toNat_natCast]; omega
  have e4 : ((f j : Nat) : Int) * 2 ^ (8 * j) = ((f j * 2 ^ (8 * j) : Nat) : Int) := by simp
  have e5 : IntKind.u64.wrap ((f j * 2 ^ (8 * j) : Nat) : Int) = ((f j * 2 ^ (8 * j) : Nat) : Int) := by rw [IntKind.wrap_u64]; omega
  rw [e1, e2, e3, e4, e5]
  exact or_val f hf j hj

theorem loaded_any (p : Option Addr) (n cap : Nat) (A B : Nat → Nat) (wd a m k : Nat) (f : Nat → Nat) (hf : ∀ i, f i = bytN A B n (adr wd a i)) (w : World) (hn : n ≤ 4200) (hm : MemAt w p n A B) (h0 : 1 ≤ wd) (h1 : wd ≤ 64) (hk : k ≤ 8) (hmk : m = 8 * k) (hB : ∀ i, i < n → B i < 256) :
    Calls Tryz.prog 45 #[.slice p n cap, .int .i64 wd, .int .u64 a, .int .i64 m] w fun e w' => e = .returned (.int .u64 (part f k)) ∧ Below w.heap.size w w' := by
  have HM := Lib.hid hm
  have HBy : ∀ i, f i < 256 := fun i => by rw [hf]; exact bytN_lt A B n _ hB
  have HF := Lib.hid hf
  have HW := Lib.hid HBy
  have hq : wrap64 ((m : Int) / 8) = (k : Int) := by rw [wrap64_small _ (by omega) (by omega)]; omega
  have huk : IntKind.u64.wrap (k : Int) = (k : Int) := by rw [IntKind.wrap_u64]; omega
  have HK := Lib.hid (And.intro hk hmk)
  have HN := Lib.hid hn
  clear hm HBy hB hk hmk hn hf
  go_enter Tryz.func45, Tryz.ntmps45
  go_wp2
  simp only [hq]
  go_loopw [9, 14] (fun x i wr => ∃ j : Nat, j ≤ k ∧ x = .int .u64 (part f j) ∧ i = .int .u64 j ∧ Below w.heap.size w wr) (fun _ i _ => k - (intOf i).toNat)
  case atStart => exact ⟨0, by omega, rfl, rfl, Below.refl _ _⟩
  case round =>
    obtain ⟨j, hj, rfl, rfl, hb⟩ := hrel
    have HB := Lib.hid hb
    clear hb
    by_cases hlt : j < k
    · have hadr := adr_val wd a j h1
      obtain ⟨v, hv⟩ : ∃ v, v = adr wd a j := ⟨_, rfl⟩
      rw [← hv] at hadr
      have hfj := HF.out j
      rw [← hv] at hfj
      have HV := Lib.hid hv
      have HFJ := Lib.hid hfj
      clear hfj
      clear hv
      go_wp2_with (first
        | (go_at_call 37; refine (mask_yes _ _ h0 h1).mono ?_; rintro e w' ⟨rfl, rfl⟩)
        | (go_at_call 67; refine (byte_any p n cap A B v wr HN.out (HM.out.below HB.out)).mono ?_; rw [← HFJ.out]; rintro e w1 ⟨rfl, hb1⟩))
      go_roundw
      case rel =>
        have hk := HK.out
        exact ⟨j + 1, by omega, by rw [or_go f HW.out j (by omega)], by rw [IntKind.wrap_u64, Int.emod_eq_of_lt (by omega) (by omega)]; rfl, HB.out.trans (hb1.mono HB.out.size)⟩
      case measure => have hk := HK.out; rw [IntKind.wrap_u64]; simp only [intOf]; omega
    · obtain rfl : j = k := by omega
      go_wp2
      go_ret
      exact ⟨rfl, HB.out⟩

theorem load_any (p : Option Addr) (n cap : Nat) (A B : Nat → Nat) (wd a m k : Nat) (f : Nat → Nat) (hf : ∀ i, f i = bytN A B n (adr wd a i)) (w : World) (hn : n ≤ 4200) (hm : MemAt w p n A B) (h0 : 1 ≤ wd) (h1 : wd ≤ 64)
    (hk : k = 1 ∨ k = 2 ∨ k = 4 ∨ k = 8) (hmk : m = 8 * k) (hB : ∀ i, i < n → B i < 256) (ha : a < 2 ^ wd) (he : cellsE n A B = 0) :
    Calls Tryz.prog 15 #[.slice p n cap, .int .i64 wd, .int .u64 a, .int .i64 m] w fun e w' => e = .returned (.tuple #[.int .u64 (part f k), .int .i64 0]) ∧ Below w.heap.size w w' := by
  have HC := cells_any p n cap A B w hm hn
  rw [he] at HC
  have HCC := Lib.hid HC
  have HL := Lib.hid (fun (W : World) (hb : Below w.heap.size w W) => loaded_any p n cap A B wd a m k f hf W hn (hm.below hb) h0 h1 (by omega) hmk hB)
  have HI := Lib.hid (fun (W : World) => isLoaded_yes (m : Int) W (by omega))
  have HO := Lib.hid (fun W => ok_any wd a W h0 h1)
  rw [(okB_iff wd a).2 ha] at HO
  have HT := Lib.hid (fun W => isWidthT_yes wd W h0 h1)
  clear HC hf hm hB ha he h0 h1 hk hmk
  go_enter Tryz.func15, Tryz.ntmps15
  go_wp2_with (first
    | (go_at_call 19; refine HCC.out.mono ?_; rintro e w1 ⟨rfl, hb1⟩)
    | (go_at_call 43; refine (HT.out _).mono ?_; rintro e w' ⟨rfl, rfl⟩)
    | (go_at_call 44; refine (HI.out _).mono ?_; rintro e w' ⟨rfl, rfl⟩)
    | (go_at_call 10; refine (HO.out _).mono ?_; rintro e w' ⟨rfl, rfl⟩)
    | (go_at_call 45; refine (HL.out _ hb1).mono ?_; rintro e w2 ⟨rfl, hb2⟩))
  go_ret2
  exact ⟨rfl, hb1.trans (hb2.mono hb1.size)⟩

theorem load_bad (p : Option Addr) (n cap : Nat) (A B : Nat → Nat) (wd a m : Nat) (w : World) (hn : n ≤ 4200) (hm : MemAt w p n A B) (he : cellsE n A B = 8) :
    Calls Tryz.prog 15 #[.slice p n cap, .int .i64 wd, .int .u64 a, .int .i64 m] w fun e w' => e = .returned (.tuple #[.int .u64 0, .int .i64 8]) ∧ Below w.heap.size w w' := by
  have HC := cells_any p n cap A B w hm hn
  rw [he] at HC
  have HCC := Lib.hid HC
  clear HC hm he
  go_enter Tryz.func15, Tryz.ntmps15
  go_wp2_with (go_at_call 19; refine HCC.out.mono ?_; rintro e w1 ⟨rfl, hb1⟩)
  go_ret2
  exact ⟨rfl, hb1⟩
end Go.Proofs.YthogpmddijbigaaGreatDoor
