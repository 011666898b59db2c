/- Contracts of the reference's functions on lists of bits: Bits, Number. -/
import Derived.Test.YtdllophjfiebiaaRefBits
namespace Go.Proofs.Ytdllophjfiebiaa
open Go.RowKit Go.Sort
set_option linter.unusedVariables false
set_option linter.unusedSimpArgs false

theorem int_info : (Try.prog.info? 3).map (fun i => (i.zero, i.size, i.bytes)) = some (some (.int .i64 0), 1, 8) := by kernel_rfl

/-- The cells of the first n bits of X. -/
def bitCells (X n : Nat) : List Value := (List.range n).map fun j => .int .i64 (bt X j : Nat)
theorem bitCells_length (X n : Nat) : (bitCells X n).length = n := by simp [bitCells]
theorem bitCells_get (X n j : Nat) (h : j < n) : (bitCells X n)[j]? = some (.int .i64 (bt X j : Nat)) := by simp [bitCells, h]
theorem bitCells_succ (X n : Nat) : bitCells X (n + 1) = bitCells X n ++ [.int .i64 (bt X n : Nat)] := by simp [bitCells, List.range_succ]
theorem bitCells_ext (X Y n : Nat) (h : ∀ j, j < n → bt X j = bt Y j) : bitCells X n = bitCells Y n := by
  unfold bitCells
  apply List.map_congr_left
  intro j hj
  rw [h j (by simpa using hj)]

/-- The list of n bits of X lies in block g, a block from base on. -/
def BitsAt (w : World) (base g n cap X : Nat) : Prop := w.ownsRow base 3 1 (.slice (some ⟨g, 0, none⟩) n cap) n (bitCells X n)
theorem BitsAt.cell {w : World} {base g n cap X : Nat} (h : BitsAt w base g n cap X) (j : Nat) (hj : j < n) : w.cell? ⟨g, j, none⟩ = some (.int .i64 (bt X j : Nat)) := by
  rw [World.ownsRow.cellAt h j (by omega), bitCells_get X n j hj]
theorem BitsAt.block {w : World} {base g n cap X : Nat} (h : BitsAt w base g n cap X) : base ≤ g ∧ g < w.heap.size := World.ownsRow.lt h g rfl
theorem BitsAt.cap {w : World} {base g n cap X : Nat} (h : BitsAt w base g n cap X) : n ≤ cap ∧ cap ≤ maxLen := by
  rcases h.2 with ⟨h2, _⟩ | ⟨g', cap', cur, hv, _, _, h3, h4, _⟩
  · cases h2
  · cases hv; exact ⟨h3, h4⟩
theorem ownsRow_kept {w w' : World} {base e size n B : Nat} {v : Value} {xs : List Value} (h : w.ownsRow base e size v n xs) (hb : Below B w w') (hB : w.heap.size ≤ B) : w'.ownsRow base e size v n xs := by
  obtain ⟨h1, h2⟩ := h
  refine ⟨h1, ?_⟩
  rcases h2 with h2 | ⟨g, cap, cur, hv, hg, hh, r⟩
  · exact Or.inl h2
  · refine Or.inr ⟨g, cap, cur, hv, hg, ?_, r⟩
    have hlt : g < w.heap.size := by
      rcases Nat.lt_or_ge g w.heap.size with h | h
      · exact h
      · rw [Array.getElem?_eq_none h] at hh; cases hh
    rw [hb.block g (by omega)]; exact hh
theorem ownsRow_base {w : World} {base base' e size n : Nat} {v : Value} {xs : List Value} (h : w.ownsRow base e size v n xs) (hb : base' ≤ base) : w.ownsRow base' e size v n xs := by
  obtain ⟨h1, h2⟩ := h
  refine ⟨h1, ?_⟩
  rcases h2 with h2 | ⟨g, cap, cur, hv, hg, hh, r⟩
  · exact Or.inl h2
  · exact Or.inr ⟨g, cap, cur, hv, by omega, hh, r⟩
theorem BitsAt.kept {w w' : World} {base g n cap X : Nat} (h : BitsAt w base g n cap X) (hb : Below w.heap.size w w') : BitsAt w' base g n cap X := ownsRow_kept h hb (Nat.le_refl _)
theorem BitsAt.mono {w : World} {base base' g n cap X : Nat} (h : BitsAt w base g n cap X) (hb : base' ≤ base) : BitsAt w base' g n cap X := ownsRow_base h hb
/-- An owned list that is not empty lies at the head of a block. -/
theorem ownsRow_head {w : World} {base e n : Nat} {v : Value} {xs : List Value} (h : w.ownsRow base e 1 v n xs) (hn : 1 ≤ n) : ∃ g cap, v = .slice (some ⟨g, 0, none⟩) n cap := by
  rcases h.2 with ⟨_, h2⟩ | ⟨g, cap, cur, hv, _⟩
  · omega
  · exact ⟨g, cap, hv⟩

/-- A call hands back the list of the n bits of X, in memory of its own. -/
def Gives (n X : Nat) (W : World) (e : Ending) (w' : World) : Prop := ∃ g cap, e = .returned (.slice (some ⟨g, 0, none⟩) n cap) ∧ BitsAt w' W.heap.size g n cap X ∧ Below W.heap.size W w'
theorem Gives.mk' {n X : Nat} {W w' : World} {v : Value} (h : w'.ownsRow W.heap.size 3 1 v n (bitCells X n)) (hn : 1 ≤ n) (hb : Below W.heap.size W w') : Gives n X W (.returned v) w' := by
  obtain ⟨g, cap, rfl⟩ := ownsRow_head h hn
  exact ⟨g, cap, rfl, h, hb⟩

theorem grown_step {w wr w1 : World} {e k : Nat} {v : Value} {xs : List Value} {o : Obj} (hb : Below w.heap.size w wr) (hown : wr.ownsRow w.heap.size e 1 v k xs) (hgrow : (wr.alloc o).grownBy w1 v.ownBlock) : Below w.heap.size w w1 :=
  (hb.alloc hb.size o).grown hgrow (by have := hb.size; simp; omega) (fun r hr => (World.ownsRow.lt hown r hr).1)

theorem bits_any (n x : Nat) (w : World) (h0 : 1 ≤ n) (h1 : n ≤ 64) (hx : x < 18446744073709551616) :
    Calls Try.prog 26 #[.int .i64 n, .int .u64 x] w (Gives n x w) := by
  obtain ⟨i0, hi, hz0, hz1, hz2⟩ := info_parts int_info
  have HB := Lib.hid (fun (i : Nat) (W : World) (hle : i ≤ 63) => bit_at x i W hle hx)
  clear hx
  go_enter Try.func26, Try.ntmps26
  go_wp2
  go_loopw [5, 6] (fun v i wr => ∃ k : Nat, k ≤ n ∧ i = .int .i64 k ∧ wr.ownsRow w.heap.size 3 1 v k (bitCells x k) ∧ Below w.heap.size w wr)
    (fun _ i _ => n - (intOf i).toNat)
  case atStart => exact ⟨0, Nat.zero_le _, rfl, World.ownsRow_nil _ _ _ _, Below.refl _ _⟩
  case round =>
    obtain ⟨k, hk, rfl, hown, hb⟩ := hrel
    by_cases hlt : k < n
    · go_wp2_with (first
        | (go_at_call 38; (with_reducible refine (HB.out k _ (by omega)).mono ?_); rintro e w' ⟨rfl, rfl⟩)
        | (at_builtin; refine wpList_append_own _ rfl _ _ 48 rfl w.heap.size 3 i0 (.int .i64 0) 1 8 Try.underlying48 hi hz0 hz1 hz2 rfl (by decide) _ _ _ rfl (hown.alloc _) ⟨_, 0, none⟩ 1 1 [.int .i64 (bt x k : Nat)] rfl rfl ?c1 ?c2 ?c3 ?c4 ?c5 ?_))
      case c1 =>
        intro j u hj
        match j, hj with
        | 0, hj => simp at hj; subst hj; simp [Addr.add]
      case c2 => intro u hu; simp at hu; subst hu; rfl
      case c3 => unfold maxLen; omega
      case c4 => omega
      case c5 => have := hb.size; simp; omega
      · intro v' w1 hown' hgrow _
        have HO := Lib.hid (show w1.ownsRow w.heap.size 3 1 v' (k + 1) (bitCells x (k + 1)) by rw [bitCells_succ]; exact hown')
        have hb' := grown_step hb hown hgrow
        have HBel := Lib.hid hb'
        clear hown' hgrow hown hb hb'
        go_wp2
        go_roundw
        case rel => exact ⟨k + 1, by omega, by go_num, HO.out, HBel.out⟩
        case measure => simp [intOf]; omega
    · obtain rfl : k = n := by omega
      go_wp2
      go_ret
      exact Gives.mk' hown h0 hb

/-- The number of the first n bits of X. -/
def md (X n : Nat) : Nat := X % 2 ^ n
theorem mod_succ (X k : Nat) : X % 2 ^ (k + 1) = X % 2 ^ k + bt X k * 2 ^ k := by
  unfold bt
  rw [Nat.mod_pow_succ, Nat.mul_comm]

theorem number_any (n X g o cap : Nat) (w : World) (h1 : n ≤ 64) (hc : ∀ j, j < n → w.cell? ⟨g, o + j, none⟩ = some (.int .i64 (bt X j : Nat))) :
    Calls Try.prog 29 #[.slice (some ⟨g, o, none⟩) n cap] w fun e w' => e = .returned (.int .u64 (md X n : Nat)) ∧ w = w' := by
  have HC := Lib.hid hc
  clear hc
  go_enter Try.func29, Try.ntmps29
  go_wp2
  go_loop [3, 4] (fun x i => ∃ k s : Nat, k ≤ n ∧ i = .int .i64 k ∧ s = X % 2 ^ k ∧ x = .int .u64 s) (fun _ i => n - (intOf i).toNat)
  case atStart => exact ⟨0, 0, Nat.zero_le _, rfl, (Nat.mod_one _).symm, rfl⟩
  case round =>
    obtain ⟨k, s, hk, rfl, hs, rfl⟩ := hrel
    by_cases hlt : k < n
    · have hcell := HC.out k hlt
      have hm := mod_succ X k
      have hp : pw k = 2 ^ k := rfl
      rw [← hs, ← hp] at hm
      have hle : X % 2 ^ (k + 1) < 18446744073709551616 := by
        have h2 := Nat.mod_lt X (pow_pos' (k + 1))
        have := pow_le (k + 1) (by omega)
        omega
      rcases bt_cases X k with hb | hb
      · rw [hb] at hcell hm
        have HS := Lib.hid (show s = X % 2 ^ (k + 1) by omega)
        clear hm hs hb hp hle
        go_wp2
        go_round
        case rel => exact ⟨k + 1, s, by omega, by go_num, HS.out, rfl⟩
        case measure => simp [intOf]; omega
      · rw [hb] at hcell hm
        have HW := Lib.hid (show IntKind.u64.wrap ((s : Int) + (pw k : Int)) = ((s + pw k : Nat) : Int) by rw [IntKind.wrap_u64]; omega)
        have HS := Lib.hid (show s + pw k = X % 2 ^ (k + 1) by omega)
        clear hm hs hb hp hle
        go_wp2_with (go_at_call 39; refine (power_any k _ (by omega)).mono ?_; rintro e w' ⟨rfl, rfl⟩)
        go_round
        case rel => exact ⟨k + 1, s + pw k, by omega, by go_num, HS.out, by rw [HW.out]⟩
        case measure => simp [intOf]; omega
    · obtain rfl : k = n := by omega
      have HS := Lib.hid hs
      clear hs
      go_wp2
      go_ret
      refine ⟨?_, rfl⟩
      rw [show md X k = s from HS.out.symm]
      rfl
end Go.Proofs.Ytdllophjfiebiaa
