/- many and the helpers of LexerNames. -/
import Derived.Test.YtejjbbgompddeaaDoorLexManyMath
import Derived.Laws.BytesArg
import Derived.Laws.MakeOwn
import Derived.OwnWalk
namespace Go.Proofs.YtejjbbgompddeaaDoor
open Go.RowKit Go.Instr
set_option linter.unusedVariables false
set_option linter.unusedSimpArgs false

theorem byte_info : (Tryd.prog.info? 5).map (fun i => (i.zero, i.size, i.bytes)) = some (some (.int .u8 0), 1, 1) := by kernel_rfl
/-- A row of bytes of which the first ones are c. -/
def FillAt (w : World) (b n i : Nat) (c : Int) : Prop := ∃ cur : Array Value, w.heap[b]? = some (.cells cur 5 (0, 0)) ∧ cur.size = n ∧ (∀ j, j < i → cur[j]? = some (.int .u8 c)) ∧ ∀ j, j < n → ∃ x, cur[j]? = some (.int .u8 x)
theorem fill_made (w : World) (n : Nat) (c : Int) : FillAt (w.alloc (.cells (madeCells #[.int .u8 0] n) 5)) w.heap.size n 0 c := by
  refine ⟨_, heap_alloc_new w _, by rw [size_madeCells], fun j hj => by omega, fun j hj => ⟨0, ?_⟩⟩
  have hs : j < (madeCells #[Value.int .u8 0] n).size := by rw [size_madeCells]; exact hj
  rw [Array.getElem?_eq_getElem hs]
  simp [madeCells, Nat.mod_one]
theorem set_blockB {W : World} {B : Nat} {xs ys : Array Value} {ty : TypeId} (h : W.heap[B]? = some (.cells xs ty (0, 0))) (i : Nat) (v : Value) (hy : ys = xs.setIfInBounds i v) :
    (W.setCell ⟨B, i, none⟩ v).heap[B]? = some (.cells ys ty (0, 0)) := set_block h i v hy
theorem FillAt.step {w : World} {b n i : Nat} {c : Int} (h : FillAt w b n i c) (hi : i < n) : FillAt (w.setCell ⟨b, i, none⟩ (.int .u8 c)) b n (i + 1) c := by
  obtain ⟨cur, h1, h2, h3, h4⟩ := h
  refine ⟨cur.setIfInBounds i (.int .u8 c), set_blockB h1 i _ rfl, by simp [h2], fun j hj => ?_, fun j hj => ?_⟩
  · rw [Array.getElem?_setIfInBounds]
    by_cases e : i = j
    · rw [if_pos e, if_pos (by omega)]
    · rw [if_neg e]; exact h3 j (by omega)
  · rw [Array.getElem?_setIfInBounds]
    by_cases e : i = j
    · rw [if_pos e, if_pos (by omega)]; exact ⟨_, rfl⟩
    · rw [if_neg e]; exact h4 j hj
theorem FillAt.cell {w : World} {b n i : Nat} {c : Int} (h : FillAt w b n i c) (j : Nat) (hj : j < n) : ∃ x, w.cell? ⟨b, j, none⟩ = some (.int .u8 x) := by
  obtain ⟨cur, h1, h2, h3, h4⟩ := h
  obtain ⟨x, hx⟩ := h4 j hj
  exact ⟨x, by simp [World.cell?, h1, hx]⟩
theorem FillAt.frozen {w : World} {b n i : Nat} {c : Int} (h : FillAt w b n i c) (j : Nat) : w.frozen? ⟨b, j, none⟩ = false := by
  obtain ⟨cur, h1, _⟩ := h
  simp [World.frozen?, h1]
theorem FillAt.string {w : World} {b n : Nat} {c : UInt8} (h : FillAt w b n n (c.toNat : Int)) (dst : TypeId) (hd : Tryd.prog.underlying dst = some .string) :
    (convert 32 dst (.slice (some ⟨b, 0, none⟩) n n)).run Tryd.prog w = .ok (.string ⟨(List.replicate n c).toArray⟩) w := by
  obtain ⟨cur, h1, h2, h3, _⟩ := h
  have hc := run_convert_bytes_arg (P := Tryd.prog) w 32 5 Tryd.underlying32 Tryd.underlying5 b 0 n n (List.replicate n (c.toNat : Int)) (by simp) (fun i hi => by
    rw [Nat.zero_add]
    have := h3 i hi
    simp [World.cell?, h1, this, hi]) dst hd
  rw [hc]
  have e : strOfNums (List.replicate n (c.toNat : Int)) = ⟨(List.replicate n c).toArray⟩ := by
    apply ba_eq
    rw [strOfNums_data, List.map_replicate]
    simp
  rw [e]

set_option maxHeartbeats 1000000 in
set_option maxRecDepth 100000 in
theorem many_any (n : Nat) (hn : n ≤ 70000) (w : World) : Calls Tryd.prog 9 #[.int .i64 n] w fun e w' => e = .returned (.string ⟨(List.replicate n 44).toArray⟩) ∧ Below w.heap.size w w' := by
  obtain ⟨i0, hi0, hz0, hz1, hz2⟩ := info_parts byte_info
  have hn1 : (n : Int) ≤ 70000 := by omega
  have hmk : ∀ W, (Instr.makeSlice 32 (.int .i64 n) (.int .i64 n)).run Tryd.prog W = .ok (.slice (some ⟨W.heap.size, 0, none⟩) n n) (W.alloc (.cells (madeCells #[.int .u8 0] n) 5)) := fun W => by
    have h := run_make (P := Tryd.prog) W 32 5 i0 (.int .u8 0) Tryd.underlying32 hi0 hz0 .i64 .i64 n n (by omega) (by omega) (by rw [hz2]; omega) (by omega)
    rw [hz1, Nat.mul_one, show (Value.int .u8 0).cells = #[.int .u8 0] from rfl] at h
    simpa using h
  obtain ⟨b, hb⟩ : ∃ b, b = w.heap.size := ⟨_, rfl⟩
  have HB := Lib.hid hb
  have HF0 : Hid (FillAt (w.alloc (.cells (madeCells #[.int .u8 0] n) 5)) b n 0 44) := Lib.hid (by rw [hb]; exact fill_made w n 44)
  clear hb hn
  go_enter Tryd.func9, Tryd.ntmps9
  go_wp2
  rw [← HB.out]
  go_loopw [4] (fun v wr => ∃ i : Nat, v = .int .i64 i ∧ i ≤ n ∧ Hid (FillAt wr b n i 44 ∧ Below w.heap.size w wr)) (fun v _ => n - (intOf v).toNat)
  case atStart => exact ⟨0, rfl, Nat.zero_le _, Lib.hid ⟨HF0.out, (Below.refl _ _).alloc (Nat.le_refl _) _⟩⟩
  case round =>
    obtain ⟨i, rfl, hi, HI⟩ := hrel
    by_cases hlt : i < n
    · obtain ⟨x, hx⟩ := HI.out.1.cell i hlt
      have hf := HI.out.1.frozen i
      have HLT := Lib.hid hlt
      go_wp2
      go_roundw
      case rel => exact ⟨i + 1, by first | rfl | go_num | (congr 1), by have := HLT.out; omega, Lib.hid ⟨HI.out.1.step HLT.out, HI.out.2.setCell (p := ⟨b, i, none⟩) (by rw [HB.out]; exact Nat.le_refl _) _⟩⟩
      case measure => simp only [intOf]; have := HLT.out; omega
    · obtain rfl : n = i := by omega
      have hcv := HI.out.1.string (c := 44) 9 Tryd.underlying9
      go_wp2
      go_ret
      exact ⟨rfl, HI.out.2⟩
end Go.Proofs.YtejjbbgompddeaaDoor
