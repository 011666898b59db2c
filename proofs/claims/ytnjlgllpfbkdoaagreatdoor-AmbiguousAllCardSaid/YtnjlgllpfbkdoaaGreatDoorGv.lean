/- Merged texts: AmbTwo, AmbTwoOk, AmbLaid, AmbAlive, AmbPre. -/
import Derived.Test.YtnjlgllpfbkdoaaGreatDoorGu
import Derived.Test.YtnjlgllpfbkdoaaGreatDoorGt
import Derived.Test.YtnjlgllpfbkdoaaGreatDoorRows
import Derived.Test.YtnjlgllpfbkdoaaGreatDoorGb
import Derived.KernelRfl
import Derived.Below
import Derived.LaidSub
import Derived.Test.YtnjlgllpfbkdoaaGreatDoorGs
import Derived.Test.YtnjlgllpfbkdoaaGreatDoorGo
namespace Go.Proofs.YtnjlgllpfbkdoaaGreatDoor
open Go.RowKit Go.Instr
set_option linter.unusedVariables false
set_option linter.unusedSimpArgs false
set_option maxRecDepth 100000

def bsN : ByteArray := ⟨#[110]⟩
def bsA : ByteArray := ⟨#[97]⟩
def bsU : ByteArray := ⟨#[117]⟩
def bsX : ByteArray := ⟨#[120]⟩
def bsY : ByteArray := ⟨#[121]⟩
def bsTwo : ByteArray := ⟨#[116, 119, 111]⟩
def twoO (P : List MPiece) : MOper := ⟨bsN, 3, 0, 0, P, -1⟩
def twoX : MIns := ⟨bsX, 128, 128, [twoO [⟨0, 7⟩]], [], 0, 1, 1, 0⟩
def twoY : MIns := ⟨bsY, 64, 64, [twoO [⟨0, 6⟩, ⟨7, 1⟩]], [], 0, 1, 1, 0⟩
def twoM : Mach := ⟨bsTwo, 1, 16, [⟨bsA, 8, -1, 0⟩], [], [⟨bsU, 1⟩], [twoX, twoY]⟩
theorem en_two1 : ∀ (args : Array Value) (w : World), (callFunc 69 args).run Tryz.prog w = .ok (.enter 69 args) w := fun _ _ => by kernel_rfl
theorem two1_any (A : Option Addr) (l c : Nat) (w : World) :
    Calls Tryz.prog 69 #[.slice A l c] w fun e w' => e = .returned (.slice (some ⟨w.heap.size, 0, none⟩) 1 1) ∧ w' = w.alloc (.cells #[.string ⟨#[110]⟩, .int .u8 3, .int .i64 0, .int .i64 0, .slice A l c, .int .i64 (-1)] 75) := by
  go_enter Tryz.func69, Tryz.ntmps69
  go_wp2
  go_ret
  exact ⟨rfl, rfl⟩
theorem allocs_heap : ∀ (l : List Obj) (w : World), (l.foldl World.alloc w).heap = w.heap ++ l.toArray
  | [], w => by simp
  | o :: l, w => by
    rw [List.foldl_cons, allocs_heap l (w.alloc o)]
    show w.heap.push o ++ l.toArray = _
    simp
theorem allocs_at (l : List Obj) (w : World) (i : Nat) : (l.foldl World.alloc w).heap[w.heap.size + i]? = l[i]? := by
  rw [allocs_heap, Array.getElem?_append_right (by omega)]
  simp
theorem allocs_below : ∀ (l : List Obj) (w : World), Below w.heap.size w (l.foldl World.alloc w)
  | [], w => Below.refl _ _
  | o :: l, w => by
    rw [List.foldl_cons]
    have h := allocs_below l (w.alloc o)
    exact ((Below.refl _ w).alloc (Nat.le_refl _) o).trans (h.mono (by simp))
/-- A row that is a block of its own. -/
theorem rows_blk {α : Type} {k b : Nat} {T : TypeId} {E : World → List Value → α → Prop} {w : World} {C : List (List Value)} {L : List α} {cs : Array Value} (hb : w.heap[b]? = some (.cells cs T)) (hcs : cs.toList = C.flatten) (hO : OwnOf k E w C L) (hm : L.length ≤ maxLen) : RowsAt k E w (.slice (some ⟨b, 0, none⟩) L.length L.length) L := by
  obtain ⟨hC, hk, hE⟩ := hO
  refine ⟨some ⟨b, 0, none⟩, L.length, rfl, hm, Nat.le_refl _, hm, fun i x hx => ?_⟩
  have hil := (List.getElem?_eq_some_iff.1 hx).1
  obtain ⟨c, hci⟩ : ∃ c, C[i]? = some c := ⟨_, List.getElem?_eq_getElem (by rw [hC]; exact hil)⟩
  refine ⟨b, 0, c, rfl, (Array.getElem?_eq_some_iff.1 hb).1, hk c (List.mem_of_getElem? hci), fun j u hj => ?_, hE i x c hx hci⟩
  rw [Nat.zero_add]
  refine cell_of hb ?_
  have e1 := flat_get C hk i c hci j u hj
  rw [← hcs] at e1
  simpa using e1
def twoV (K : Nat) : Array Value := #[.string ⟨#[116, 119, 111]⟩, .int .i64 1, .int .i64 16, .slice (some ⟨K + 1, 0, none⟩) 1 1, .slice none 0 0, .slice (some ⟨K + 2, 0, none⟩) 1 1, .slice (some ⟨K + 8, 0, none⟩) 2 2]
def twoObjs (K : Nat) : List Obj := [
  .cells (twoV K) 27,
  .cells #[.string ⟨#[97]⟩, .int .i64 8, .int .i64 (-1), .int .i64 0] 132,
  .cells #[.string ⟨#[117]⟩, .int .i64 1] 134,
  .cells (twoV K) 27,
  .cells #[.int .i64 0, .int .i64 7] 129,
  .cells #[.string ⟨#[110]⟩, .int .u8 3, .int .i64 0, .int .i64 0, .slice (some ⟨K + 4, 0, none⟩) 1 1, .int .i64 (-1)] 75,
  .cells #[.int .i64 0, .int .i64 6, .int .i64 7, .int .i64 1] 129,
  .cells #[.string ⟨#[110]⟩, .int .u8 3, .int .i64 0, .int .i64 0, .slice (some ⟨K + 6, 0, none⟩) 2 2, .int .i64 (-1)] 75,
  .cells #[.string ⟨#[120]⟩, .int .u64 128, .int .u64 128, .slice (some ⟨K + 5, 0, none⟩) 1 1, .slice none 0 0, .int .i64 0, .int .i64 1, .int .i64 1, .int .i64 0, .string ⟨#[121]⟩, .int .u64 64, .int .u64 64, .slice (some ⟨K + 7, 0, none⟩) 1 1, .slice none 0 0, .int .i64 0, .int .i64 1, .int .i64 1, .int .i64 0] 69]
def twoW (w : World) : World := (twoObjs w.heap.size).foldl World.alloc w
theorem twoW_at (w : World) (i : Nat) : (twoW w).heap[w.heap.size + i]? = (twoObjs w.heap.size)[i]? := allocs_at _ _ _
theorem smallB {n : Nat} (s : ByteArray) (h : s.size = n) (hn : n ≤ 100) : s.size ≤ maxLen := by unfold maxLen; omega
theorem rows_none {α : Type} {k : Nat} {E : World → List Value → α → Prop} {w : World} : RowsAt k E w (.slice none 0 0) ([] : List α) := ⟨none, 0, rfl, by simp, by simp, by simp, fun i x hx => by simp at hx⟩
theorem two_mach (w : World) : MachV (twoW w) (.agg (twoV w.heap.size)) twoM := by
  have b1 := twoW_at w 1
  have b2 := twoW_at w 2
  have b4 := twoW_at w 4
  have b5 := twoW_at w 5
  have b6 := twoW_at w 6
  have b7 := twoW_at w 7
  have b8 := twoW_at w 8
  have hml : (100 : Nat) ≤ maxLen := by decide
  have P1 : RowsAt 2 pieceE (twoW w) (.slice (some ⟨w.heap.size + 4, 0, none⟩) 1 1) [⟨0, 7⟩] := rows_blk (C := [[.int .i64 0, .int .i64 7]]) b4 rfl (OwnOf.nil.snoc rfl ⟨rfl, by decide, by decide⟩) (by simp; omega)
  have P2 : RowsAt 2 pieceE (twoW w) (.slice (some ⟨w.heap.size + 6, 0, none⟩) 2 2) [⟨0, 6⟩, ⟨7, 1⟩] := rows_blk (C := [[.int .i64 0, .int .i64 6], [.int .i64 7, .int .i64 1]]) b6 rfl ((OwnOf.nil.snoc rfl ⟨rfl, by decide, by decide⟩).snoc rfl ⟨rfl, by decide, by decide⟩) (by simp; omega)
  have O1 : RowsAt 6 operE (twoW w) (.slice (some ⟨w.heap.size + 5, 0, none⟩) 1 1) [twoO [⟨0, 7⟩]] := rows_blk (C := [[.string ⟨#[110]⟩, .int .u8 3, .int .i64 0, .int .i64 0, .slice (some ⟨w.heap.size + 4, 0, none⟩) 1 1, .int .i64 (-1)]]) b5 rfl (OwnOf.nil.snoc rfl ⟨_, rfl, (by decide), by decide, by decide, by decide, P1, by decide⟩) (by simp; omega)
  have O2 : RowsAt 6 operE (twoW w) (.slice (some ⟨w.heap.size + 7, 0, none⟩) 1 1) [twoO [⟨0, 6⟩, ⟨7, 1⟩]] := rows_blk (C := [[.string ⟨#[110]⟩, .int .u8 3, .int .i64 0, .int .i64 0, .slice (some ⟨w.heap.size + 6, 0, none⟩) 2 2, .int .i64 (-1)]]) b7 rfl (OwnOf.nil.snoc rfl ⟨_, rfl, (by decide), by decide, by decide, by decide, P2, by decide⟩) (by simp; omega)
  have I1 : RowsAt 9 insE (twoW w) (.slice (some ⟨w.heap.size + 8, 0, none⟩) 2 2) [twoX, twoY] := rows_blk (C := [[.string ⟨#[120]⟩, .int .u64 128, .int .u64 128, .slice (some ⟨w.heap.size + 5, 0, none⟩) 1 1, .slice none 0 0, .int .i64 0, .int .i64 1, .int .i64 1, .int .i64 0], [.string ⟨#[121]⟩, .int .u64 64, .int .u64 64, .slice (some ⟨w.heap.size + 7, 0, none⟩) 1 1, .slice none 0 0, .int .i64 0, .int .i64 1, .int .i64 1, .int .i64 0]]) b8 rfl
    ((OwnOf.nil.snoc rfl ⟨_, _, rfl, (by decide), by decide, by decide, O1, rows_none, by decide, by decide, by decide, by decide⟩).snoc rfl ⟨_, _, rfl, (by decide), by decide, by decide, O2, rows_none, by decide, by decide, by decide, by decide⟩) (by simp; omega)
  have R1 : RowsAt 4 regE (twoW w) (.slice (some ⟨w.heap.size + 1, 0, none⟩) 1 1) [⟨bsA, 8, -1, 0⟩] := rows_blk (C := [[.string ⟨#[97]⟩, .int .i64 8, .int .i64 (-1), .int .i64 0]]) b1 rfl (OwnOf.nil.snoc rfl ⟨rfl, (by decide), by decide, by decide, by decide⟩) (by simp; omega)
  have U1 : RowsAt 2 unitE (twoW w) (.slice (some ⟨w.heap.size + 2, 0, none⟩) 1 1) [⟨bsU, 1⟩] := rows_blk (C := [[.string ⟨#[117]⟩, .int .i64 1]]) b2 rfl (OwnOf.nil.snoc rfl ⟨rfl, (by decide), by decide⟩) (by simp; omega)
  exact ⟨_, rfl, _, _, _, _, rfl, (by decide), by decide, by decide, R1, rows_none, U1, I1⟩
set_option maxHeartbeats 2000000 in
theorem twoOf_any (w : World) :
    Calls Tryz.prog 49 #[] w fun e w' => ∃ v, e = .returned v ∧ MachV w' v twoM ∧ Below w.heap.size w w' := by
  have eg := en_two1
  have H1 := Lib.hid (fun A l c W => two1_any A l c W)
  go_enter Tryz.func49, Tryz.ntmps49
  go_wp2_with ((with_reducible refine (H1.out _ _ _ _).mono ?_); rintro e w1 ⟨rfl, rfl⟩)
  change bodyPost _ _ _ _ _ (twoW w)
  have e0 : (twoW w).heap[w.heap.size]? = some (.cells (twoV w.heap.size) 27) := twoW_at w 0
  have r0 := cell_of e0 (i := 0) rfl
  have r1 := cell_of e0 (i := 1) rfl
  have r2 := cell_of e0 (i := 2) rfl
  have r3 := cell_of e0 (i := 3) rfl
  have r4 := cell_of e0 (i := 4) rfl
  have r5 := cell_of e0 (i := 5) rfl
  have r6 := cell_of e0 (i := 6) rfl
  exact bodyPost_ret (v := .agg (twoV w.heap.size)) (by simp [results, Tryz.results49, go_sem, r0, r1, r2, r3, r4, r5, r6, twoV]) rfl ⟨_, rfl, two_mach w, allocs_below _ _⟩
end Go.Proofs.YtnjlgllpfbkdoaaGreatDoor
namespace Go.Proofs.YtnjlgllpfbkdoaaGreatDoor
open Go.RowKit
set_option linter.unusedVariables false
set_option linter.unusedSimpArgs false
set_option maxRecDepth 100000

theorem nameR_one {c : UInt8} (h : letterP c.toNat) : nameR ⟨#[c]⟩ = true := nameR_yes ⟨Nat.le_refl 1, (by show 1 ≤ 24; omega), fun i d hd => by
  match i, hd with
  | 0, hd => obtain rfl : c = d := by simpa using hd
             exact .inl h
  | i + 1, hd => simp at hd⟩
theorem nameR_two : nameR bsTwo = true := nameR_yes ⟨by decide, by decide, fun i d hd => by
  match i, hd with
  | 0, hd => obtain rfl : 116 = d := by simpa [bsTwo] using hd
             exact .inl (by unfold letterP; decide)
  | 1, hd => obtain rfl : 119 = d := by simpa [bsTwo] using hd
             exact .inl (by unfold letterP; decide)
  | 2, hd => obtain rfl : 111 = d := by simpa [bsTwo] using hd
             exact .inl (by unfold letterP; decide)
  | i + 3, hd => simp [bsTwo] at hd⟩
theorem named_one {s : ByteArray} (h : nameR s = true) : namedR [] [s] = true := by rw [namedR_go (by simp) h]; rfl
theorem two_ins (K : ByteArray → Int) : insR twoM K twoX = true ∧ insR twoM K twoY = true := by
  have hn : namedR [] [bsN] = true := named_one (s := bsN) (nameR_one (c := 110) (by unfold letterP; decide))
  constructor
  · unfold insR insHeadR opersR
    rw [show (twoX.opers.map fun x => x.name) = [bsN] from rfl, hn, show twoX.effs = [] from rfl, List.all_nil]
    decide +kernel
  · unfold insR insHeadR opersR
    rw [show (twoY.opers.map fun x => x.name) = [bsN] from rfl, hn, show twoY.effs = [] from rfl, List.all_nil]
    decide +kernel
theorem two_chk : chkR twoM = 0 := by
  unfold chkR
  rw [if_pos (by decide)]
  have h1 : headR twoM = true := by
    unfold headR
    rw [show twoM.name = bsTwo from rfl, nameR_two]
    decide
  have h2 : regsR twoM.regs = true := by
    unfold regsR
    rw [show (twoM.regs.map fun x => x.name) = [bsA] from rfl, named_one (s := bsA) (nameR_one (c := 97) (by unfold letterP; decide))]
    decide
  have h3 : banksR twoM.regs twoM.banks = true := by
    unfold banksR
    rfl
  have h4 : unitsR twoM.units = true := by
    unfold unitsR
    rw [show (twoM.units.map fun x => x.name) = [bsU] from rfl, named_one (s := bsU) (nameR_one (c := 117) (by unfold letterP; decide))]
    decide
  have h5 : instrsR twoM = true := by
    unfold instrsR
    have hx : nameR bsX = true := nameR_one (c := 120) (by unfold letterP; decide)
    have hy : nameR bsY = true := nameR_one (c := 121) (by unfold letterP; decide)
    rw [show (twoM.instrs.map fun x => x.name) = [bsX, bsY] from rfl, namedR_go (by simp) hx, List.nil_append, namedR_go (by simp; decide) hy]
    rw [show twoM.instrs = [twoX, twoY] from rfl, List.all_cons, List.all_cons, (two_ins _).1, (two_ins _).2]
    rfl
  have hv : validR twoM = true := by
    unfold validR
    rw [h1, h2, h3, h4, h5]
    rfl
  rw [if_pos hv]
theorem two_effs : ∀ x ∈ twoM.instrs, ∀ f ∈ x.effs, EffOk f := by
  intro x hx f hf
  rcases List.mem_cons.1 hx with rfl | hx
  · cases hf
  · rcases List.mem_cons.1 hx with rfl | hx
    · cases hf
    · cases hx
def twoS : List Shp := twoM.instrs.map (shapeR twoM)
theorem two_clash : clashL twoM = [(0, 1, 192)] := by
  unfold clashL
  rw [if_pos two_chk]
  decide
theorem two_cnt : cntR twoM 0 = 128 := by
  have h : amErr twoM [0] = 0 := by
    unfold amErr
    rw [if_pos two_chk]
    decide
  unfold cntR
  rw [if_pos h]
  decide
theorem two_holErr : holErr twoM 0 256 = 0 := by
  unfold holErr
  rw [if_pos two_chk]
  decide
theorem two_hol : holL twoM 0 256 = List.range 64 := by
  unfold holL
  rw [if_pos two_holErr]
  decide
end Go.Proofs.YtnjlgllpfbkdoaaGreatDoor
namespace Go.Proofs.YtnjlgllpfbkdoaaGreatDoor
open Go.RowKit
set_option linter.unusedVariables false
set_option linter.unusedSimpArgs false

inductive VQ : Value → Value → Prop
  | lit (v : Value) : VQ v v
inductive VQL : List Value → List Value → Prop
  | nil : VQL [] []
  | cons {v x : Value} {l xs : List Value} (h : VQ v x) (t : VQL l xs) : VQL (v :: l) (x :: xs)
theorem VQL.get {l : List Value} : ∀ {xs : List Value}, VQL l xs → ∀ (i : Nat) (v : Value), l[i]? = some v → ∃ x, xs[i]? = some x ∧ VQ v x := by
  induction l with
  | nil => intro xs h i v hv; simp at hv
  | cons u l ih =>
    intro xs h i v hv
    cases h with
    | cons h t =>
      cases i with
      | zero => simp at hv; subst hv; exact ⟨_, rfl, h⟩
      | succ i => simpa using ih t i v (by simpa using hv)
theorem VQL.append {l m : List Value} : ∀ {xs ys : List Value}, VQL l xs → VQL m ys → VQL (l ++ m) (xs ++ ys) := by
  induction l with
  | nil => intro xs ys h k; cases h; exact k
  | cons v l ih => intro xs ys h k; cases h with | cons h t => exact .cons h (ih t k)
def layFields (P : Program) (lay : TypeId → DataW Unit → Option (List Value)) : List Field → List (DataW Unit) → Nat → Option (List Value)
  | [], [], _ => some []
  | f :: fs, d :: ds, off => match f.offset == off, lay f.type d, layFields P lay fs ds (off + P.cellsOf f.type) with
    | true, some a, some b => match a.length == P.cellsOf f.type with
      | true => some (a ++ b)
      | false => none
    | _, _, _ => none
  | _, _, _ => none
def layElems (k : Nat) (lay : DataW Unit → Option (List Value)) : List (DataW Unit) → Option (List Value)
  | [] => some []
  | d :: ds => match lay d, layElems k lay ds with
    | some a, some b => match a.length == k with
      | true => some (a ++ b)
      | false => none
    | _, _ => none
/-- The cells of a plain datum of a type. -/
def layC (P : Program) : Nat → TypeId → DataW Unit → Option (List Value)
  | 0, _, _ => none
  | n + 1, t, d => match P.underlying t, d with
    | some .bool, .lit (.bool b) => some [.bool b]
    | some (.int k), .lit (.int _ z) => some [.int k z]
    | some .string, .lit (.string s) => some [.string ⟨s.toArray⟩]
    | some (.struct fs), .agg ds => layFields P (layC P n) fs.toList ds 0
    | some (.array m e), .agg ds => layElems (P.cellsOf e) (layC P n e) ds
    | _, _ => none
section
variable {P : Program} {w : World}
theorem fields_rel {enc : TypeId × Value → Unit} {spare : Nat → Bool} {held : Bool} {fuel n : Nat} {cs : List Value} (ih : ∀ {t : TypeId} {d : DataW Unit} {cs : List Value} {p : List MemPlace} {vs : List Value}, layC P n t d = some vs → DataW.trod enc P w 0 spare held fuel t cs = some (d, p) → VQL vs (cs.take vs.length)) :
    ∀ (fs : List Field) {xs : List (DataW Unit × List MemPlace)} {off : Nat} {vs : List Value}, (fs.mapM fun f => DataW.trod enc P w 0 spare held fuel f.type ((cs.drop f.offset).take (P.cellsOf f.type))) = some xs →
      layFields P (layC P n) fs (xs.map (·.1)) off = some vs → VQL vs ((cs.drop off).take vs.length) := by
  intro fs
  induction fs with
  | nil => intro xs off vs hx hv; cases hx; cases hv; simpa using VQL.nil
  | cons f fs ihf =>
    intro xs off vs hx hv
    rw [List.mapM_cons] at hx
    cases h1 : DataW.trod enc P w 0 spare held fuel f.type ((cs.drop f.offset).take (P.cellsOf f.type)) with
    | none => rw [h1] at hx; cases hx
    | some x =>
      rw [h1] at hx
      cases h2 : (fs.mapM fun f => DataW.trod enc P w 0 spare held fuel f.type ((cs.drop f.offset).take (P.cellsOf f.type))) with
      | none => rw [h2] at hx; cases hx
      | some ys =>
        rw [h2] at hx
        cases hx
        obtain ⟨d, p⟩ := x
        unfold layFields at hv
        simp only [List.map_cons] at hv
        split at hv
        · rename_i a b ho ha hb
          split at hv
          · rename_i hl
            cases hv
            have ho : f.offset = off := by simpa using ho
            have hl : a.length = P.cellsOf f.type := by simpa using hl
            subst ho
            have r1 := ih ha h1
            have r2 := ihf h2 hb
            rw [List.length_append, List.take_add]
            rw [← hl, List.take_take, Nat.min_self] at r1
            refine r1.append ?_
            rw [List.drop_drop]
            rw [← hl] at r2
            exact r2
          · cases hv
        · cases hv
theorem elems_rel {enc : TypeId × Value → Unit} {spare : Nat → Bool} {held : Bool} {fuel n k : Nat} {e : TypeId} {cs : List Value} (ih : ∀ {t : TypeId} {d : DataW Unit} {cs : List Value} {p : List MemPlace} {vs : List Value}, layC P n t d = some vs → DataW.trod enc P w 0 spare held fuel t cs = some (d, p) → VQL vs (cs.take vs.length)) :
    ∀ (m s : Nat) {xs : List (DataW Unit × List MemPlace)} {vs : List Value}, ((List.range' s m).mapM fun i => DataW.trod enc P w 0 spare held fuel e ((cs.drop (i * k)).take k)) = some xs →
      layElems k (layC P n e) (xs.map (·.1)) = some vs → VQL vs ((cs.drop (s * k)).take vs.length) ∧ vs.length = m * k := by
  intro m
  induction m with
  | zero => intro s xs vs hx hv; cases hx; cases hv; exact ⟨by simpa using VQL.nil, by simp⟩
  | succ m ihm =>
    intro s xs vs hx hv
    rw [List.range'_succ, List.mapM_cons] at hx
    cases h1 : DataW.trod enc P w 0 spare held fuel e ((cs.drop (s * k)).take k) with
    | none => rw [h1] at hx; cases hx
    | some x =>
      rw [h1] at hx
      cases h2 : ((List.range' (s + 1) m).mapM fun i => DataW.trod enc P w 0 spare held fuel e ((cs.drop (i * k)).take k)) with
      | none => rw [h2] at hx; cases hx
      | some ys =>
        rw [h2] at hx
        cases hx
        obtain ⟨d, p⟩ := x
        unfold layElems at hv
        simp only [List.map_cons] at hv
        split at hv
        · rename_i a b ha hb
          split at hv
          · rename_i hl
            cases hv
            have hl : a.length = k := by simpa using hl
            have r1 := ih ha h1
            obtain ⟨r2, r3⟩ := ihm _ h2 hb
            refine ⟨?_, by rw [List.length_append, hl, r3, Nat.add_mul]; omega⟩
            rw [List.length_append, List.take_add]
            rw [← hl, List.take_take, Nat.min_self, hl] at r1
            refine VQL.append (by rw [hl]; exact r1) ?_
            rw [List.drop_drop, hl, show s * k + k = (s + 1) * k by rw [Nat.add_mul]; omega]
            exact r2
          · cases hv
        · cases hv
theorem lay_rel {enc : TypeId × Value → Unit} {spare : Nat → Bool} {held : Bool} : ∀ (n : Nat) {fuel : Nat} {t : TypeId} {d : DataW Unit} {cs : List Value} {p : List MemPlace} {vs : List Value}, layC P n t d = some vs → DataW.trod enc P w 0 spare held fuel t cs = some (d, p) → VQL vs (cs.take vs.length) := by
  intro n
  induction n with
  | zero => intro fuel t d cs p vs h; cases h
  | succ n ih =>
    intro fuel t d cs p vs hv ht
    cases fuel with
    | zero => unfold DataW.trod at ht; cases ht
    | succ fuel =>
      unfold layC at hv
      unfold DataW.trod at ht
      split at hv
      · rename_i b hu
        rw [hu] at ht
        cases hv
        split at ht <;> first | (cases ht; done) | skip
        all_goals (first | (rename_i e; cases e; done) | skip)
        all_goals (first | (cases ht; exact .cons (.lit _) .nil) | (split at ht <;> cases ht) | skip)
      · rename_i k k' z hu
        rw [hu] at ht
        cases hv
        split at ht <;> first | (cases ht; done) | skip
        all_goals (first | (rename_i e; cases e; done) | skip)
        all_goals
          rename_i e
          cases e
          split at ht
          · rename_i e2
            obtain ⟨rfl, _⟩ := e2
            cases ht
            exact .cons (.lit _) .nil
          · cases ht
      · rename_i s hu
        rw [hu] at ht
        cases hv
        split at ht <;> first | (cases ht; done) | skip
        all_goals (first | (rename_i e; cases e; done) | skip)
        all_goals (first | (split at ht <;> first | (cases ht; done) | (cases ht; exact .cons (.lit _) .nil)) | skip)
      · rename_i fs ds hu
        rw [hu] at ht
        simp only [] at ht
        split at ht
        · rename_i hl
          cases hx : (fs.toList.mapM fun f => DataW.trod enc P w 0 spare held fuel f.type ((cs.drop f.offset).take (P.cellsOf f.type))) with
          | none => rw [hx] at ht; cases ht
          | some xs =>
            rw [hx] at ht
            cases ht
            have := fields_rel (cs := cs) (fun h1 h2 => ih h1 h2) fs.toList hx hv
            rw [List.drop_zero] at this
            exact this
        · cases ht
      · rename_i m e ds hu
        rw [hu] at ht
        simp only [] at ht
        split at ht
        · rename_i hl
          rw [List.range_eq_range'] at ht
          cases hx : ((List.range' 0 m).mapM fun i => DataW.trod enc P w 0 spare held fuel e ((cs.drop (i * P.cellsOf e)).take (P.cellsOf e))) with
          | none => rw [hx] at ht; cases ht
          | some xs =>
            rw [hx] at ht
            cases ht
            obtain ⟨r1, r2⟩ := elems_rel (cs := cs) (fun h1 h2 => ih h1 h2) m 0 hx hv
            rw [Nat.zero_mul, List.drop_zero] at r1
            exact r1
        · cases ht
      · cases hv
theorem laid_mem {l : List (String × DataW Unit)} : ∀ {ps : List MemPlace}, DataW.LaidVars P w l ps → ∀ {n : String} {d : DataW Unit}, (n, d) ∈ l → ∃ g t cs fuel p, P.globalNamed n = some g ∧ (P.globals[g]?).map (·.type) = some t ∧ w.var? P n = some cs ∧ DataW.trod (fun _ => ()) P w 0 (fun _ => true) false fuel t cs.toList = some (d, p) := by
  induction l with
  | nil => intro ps _ n d h; cases h
  | cons x l ih =>
    intro ps h n d hm
    obtain ⟨g, t, cs, fuel, p, q, h1, h2, h3, h4, h5, _⟩ := h
    cases hm with
    | head => exact ⟨g, t, cs, fuel, p, h1, h2, h3, h4⟩
    | tail _ hm => exact ih h5 hm
theorem var_cells {n : String} {g : Nat} {cs : Array Value} (hg : P.globalNamed n = some g) (hv : w.var? P n = some cs) : ∃ el fr, w.heap[g]? = some (.cells cs el fr) := by
  unfold World.var? at hv
  rw [hg] at hv
  simp only [Option.bind_some] at hv
  split at hv
  · rename_i e; cases hv; exact ⟨_, _, e⟩
  · cases hv
/-- A listed table. -/
theorem laid_table {l : List (String × DataW Unit)} (hm : laidMet P l w) {n : String} {d : DataW Unit} (hn : (n, d) ∈ l) {g : Nat} (hg : P.globalNamed n = some g) {t : TypeId} (ht : (P.globals[g]?).map (·.type) = some t) {k : Nat} {vs : List Value} (hl : layC P k t d = some vs) :
    ∃ (c : Array Value) (el : TypeId) (fr : Nat × Nat), w.heap[g]? = some (.cells c el fr) ∧ ∀ (i : Nat) (v : Value), vs[i]? = some v → ∃ x : Value, c[i]? = some x ∧ VQ v x := by
  obtain ⟨ps, hv, _⟩ := hm
  obtain ⟨g', t', cs, fuel, p, h1, h2, h3, h4⟩ := laid_mem hv hn
  rw [hg] at h1; cases h1
  rw [ht] at h2; cases h2
  obtain ⟨el, fr, hc⟩ := var_cells hg h3
  refine ⟨cs, el, fr, hc, fun i v hi => ?_⟩
  obtain ⟨x, hx, hvx⟩ := (lay_rel k hl h4).get i v hi
  rw [List.getElem?_take] at hx
  split at hx
  · exact ⟨x, by simpa using hx, hvx⟩
  · cases hx
end
theorem laid_filtered : (Rows.ambiguousOwnersRow.laid.filter fun x => x.2.handleName?.isNone) = Rows.ambiguousOwnersRow.laid := by kernel_rfl
set_option maxRecDepth 100000 in
/-- The table of the kinds' shapes, when the call begins. -/
theorem amb_shapes (W : World) (hL : laidMetH Tryz.prog Rows.ambiguousOwnersRow.laid W) : ShapesAt W := by
  have hm : laidMet Tryz.prog Rows.ambiguousOwnersRow.laid W := by
    have h1 := (laidMetH_iff.1 hL).1
    rw [laid_filtered] at h1
    exact h1
  have h5 := laid_table hm (List.mem_of_getElem? (show Rows.ambiguousOwnersRow.laid[0]? = some _ from rfl)) (g := 0) (by kernel_rfl) (t := ((Tryz.prog.globals[0]?).map (·.type)).getD 0) (by kernel_rfl) (k := 8) (vs := [(.string ⟨#[]⟩), (.int .i64 0), (.string ⟨#[]⟩), (.int .i64 0), (.string ⟨#[]⟩), (.int .i64 0), (.string ⟨#[110, 111, 116]⟩), (.int .i64 1), (.string ⟨#[110, 101, 103]⟩), (.int .i64 1), (.string ⟨#[97, 100, 100]⟩), (.int .i64 2), (.string ⟨#[115, 117, 98]⟩), (.int .i64 2), (.string ⟨#[109, 117, 108]⟩), (.int .i64 2), (.string ⟨#[97, 110, 100]⟩), (.int .i64 2), (.string ⟨#[111, 114]⟩), (.int .i64 2), (.string ⟨#[120, 111, 114]⟩), (.int .i64 2), (.string ⟨#[115, 104, 108]⟩), (.int .i64 2), (.string ⟨#[115, 104, 114]⟩), (.int .i64 2), (.string ⟨#[115, 97, 114]⟩), (.int .i64 2), (.string ⟨#[117, 100, 105, 118]⟩), (.int .i64 2), (.string ⟨#[117, 114, 101, 109]⟩), (.int .i64 2), (.string ⟨#[101, 113]⟩), (.int .i64 2), (.string ⟨#[117, 108, 116]⟩), (.int .i64 2), (.string ⟨#[115, 108, 116]⟩), (.int .i64 2), (.string ⟨#[105, 116, 101]⟩), (.int .i64 3), (.string ⟨#[99, 111, 110, 99, 97, 116]⟩), (.int .i64 2), (.string ⟨#[101, 120, 116, 114, 97, 99, 116]⟩), (.int .i64 1), (.string ⟨#[122, 101, 120, 116]⟩), (.int .i64 1), (.string ⟨#[115, 101, 120, 116]⟩), (.int .i64 1), (.string ⟨#[108, 111, 97, 100]⟩), (.int .i64 1)]) (by kernel_rfl)
  obtain ⟨c, el, fr, hc, hv⟩ := h5
  intro k hk
  have key : ∀ (v : Value), c[k * 2 + 1]? = some v → W.cell? ⟨0, k * 2 + 1, none⟩ = some v := fun v h => by simp [World.cell?, hc, h]
  apply key
  rcases (by omega : k = 0 ∨ k = 1 ∨ k = 2 ∨ k = 3 ∨ k = 4 ∨ k = 5 ∨ k = 6 ∨ k = 7 ∨ k = 8 ∨ k = 9 ∨ k = 10 ∨ k = 11 ∨ k = 12 ∨ k = 13 ∨ k = 14 ∨ k = 15 ∨ k = 16 ∨ k = 17 ∨ k = 18 ∨ k = 19 ∨ k = 20 ∨ k = 21 ∨ k = 22 ∨ k = 23 ∨ k = 24) with rfl | rfl | rfl | rfl | rfl | rfl | rfl | rfl | rfl | rfl | rfl | rfl | rfl | rfl | rfl | rfl | rfl | rfl | rfl | rfl | rfl | rfl | rfl | rfl | rfl
  · obtain ⟨x, hx, hr⟩ := hv 1 _ rfl; cases hr; exact hx
  · obtain ⟨x, hx, hr⟩ := hv 3 _ rfl; cases hr; exact hx
  · obtain ⟨x, hx, hr⟩ := hv 5 _ rfl; cases hr; exact hx
  · obtain ⟨x, hx, hr⟩ := hv 7 _ rfl; cases hr; exact hx
  · obtain ⟨x, hx, hr⟩ := hv 9 _ rfl; cases hr; exact hx
  · obtain ⟨x, hx, hr⟩ := hv 11 _ rfl; cases hr; exact hx
  · obtain ⟨x, hx, hr⟩ := hv 13 _ rfl; cases hr; exact hx
  · obtain ⟨x, hx, hr⟩ := hv 15 _ rfl; cases hr; exact hx
  · obtain ⟨x, hx, hr⟩ := hv 17 _ rfl; cases hr; exact hx
  · obtain ⟨x, hx, hr⟩ := hv 19 _ rfl; cases hr; exact hx
  · obtain ⟨x, hx, hr⟩ := hv 21 _ rfl; cases hr; exact hx
  · obtain ⟨x, hx, hr⟩ := hv 23 _ rfl; cases hr; exact hx
  · obtain ⟨x, hx, hr⟩ := hv 25 _ rfl; cases hr; exact hx
  · obtain ⟨x, hx, hr⟩ := hv 27 _ rfl; cases hr; exact hx
  · obtain ⟨x, hx, hr⟩ := hv 29 _ rfl; cases hr; exact hx
  · obtain ⟨x, hx, hr⟩ := hv 31 _ rfl; cases hr; exact hx
  · obtain ⟨x, hx, hr⟩ := hv 33 _ rfl; cases hr; exact hx
  · obtain ⟨x, hx, hr⟩ := hv 35 _ rfl; cases hr; exact hx
  · obtain ⟨x, hx, hr⟩ := hv 37 _ rfl; cases hr; exact hx
  · obtain ⟨x, hx, hr⟩ := hv 39 _ rfl; cases hr; exact hx
  · obtain ⟨x, hx, hr⟩ := hv 41 _ rfl; cases hr; exact hx
  · obtain ⟨x, hx, hr⟩ := hv 43 _ rfl; cases hr; exact hx
  · obtain ⟨x, hx, hr⟩ := hv 45 _ rfl; cases hr; exact hx
  · obtain ⟨x, hx, hr⟩ := hv 47 _ rfl; cases hr; exact hx
  · obtain ⟨x, hx, hr⟩ := hv 49 _ rfl; cases hr; exact hx

end Go.Proofs.YtnjlgllpfbkdoaaGreatDoor
namespace Go.Proofs.YtnjlgllpfbkdoaaGreatDoor
open Go.RowKit Go.Instr
set_option linter.unusedVariables false
set_option linter.unusedSimpArgs false
set_option maxRecDepth 100000

def F2 (g o : Nat) (X : World) : Prop := g < X.heap.size ∧ X.cell? ⟨g, o, none⟩ = some (.int .i64 0) ∧ X.cell? ⟨g, o + 1, none⟩ = some (.int .i64 1) ∧ X.cell? ⟨g, o + 2, none⟩ = some (.int .u64 192)
theorem F2.later {g o : Nat} {X Y : World} (h : F2 g o X) (hb : Below X.heap.size X Y) : F2 g o Y := ⟨Nat.lt_of_lt_of_le h.1 hb.size, by rw [hb.cell h.1]; exact h.2.1, by rw [hb.cell h.1]; exact h.2.2.1, by rw [hb.cell h.1]; exact h.2.2.2⟩
def F4 (g o : Nat) (X : World) : Prop := g < X.heap.size ∧ ∀ i : Nat, i < 64 → X.cell? ⟨g, o + i, none⟩ = some (.int .u64 (i : Nat))
theorem F4.later {g o : Nat} {X Y : World} (h : F4 g o X) (hb : Below X.heap.size X Y) : F4 g o Y := ⟨Nat.lt_of_lt_of_le h.1 hb.size, fun i hi => by rw [hb.cell h.1]; exact h.2 i hi⟩
def MV2 (X : World) (v : Value) : Prop := MachV X v twoM
theorem clash_neq (w : World) : (do eqGuard .neq 105 (.tmp 33) (.tmp 34) (.agg #[.int .i64 0, .int .i64 1, .int .u64 192]) (.agg #[.int .i64 0, .int .i64 1, .int .u64 192]); Go.binOp .neq 105 (.agg #[.int .i64 0, .int .i64 1, .int .u64 192]) (.agg #[.int .i64 0, .int .i64 1, .int .u64 192]) : Sem Value).run Tryz.prog w = .ok (.bool false) w := by kernel_rfl
set_option warningAsError false in
set_option maxHeartbeats 4000000 in
theorem alive11_any (w : World) (hT : ShapesAt w) :
    Calls Tryz.prog 26 #[] w fun e w' => e = .returned (.bool true) ∧ Below w.heap.size w w' := by
  have HTW := Lib.hid (show ∀ X, Below w.heap.size w X → Calls Tryz.prog 49 #[] X fun e w' => ∃ v, e = .returned v ∧ MV2 w' v ∧ Below X.heap.size X w' from fun X hX => twoOf_any X)
  have HCL := Lib.hid (show ∀ v X, Below w.heap.size w X → MV2 X v → Calls Tryz.prog 18 #[v] X fun e w' => ∃ (g o c : Nat), e = .returned (.tuple #[.slice (some ⟨g, o, none⟩) 1 c, .int .i64 0]) ∧ F2 g o w' ∧ Below X.heap.size X w' from fun v X hX hm => (clashes_any X v twoM hm (hT.below hX) two_effs).mono fun e w' ⟨sv, h1, h2, h3⟩ => by
    rw [two_clash] at h2
    obtain ⟨A, c, e1, _, _, _, hall⟩ := h2
    obtain ⟨g, o, cs, e2, hg, _, hc, hE⟩ := hall 0 _ rfl
    unfold clsE at hE
    subst hE
    subst e2
    rw [e1, two_chk] at h1
    exact ⟨g, o, c, h1, ⟨hg, by simpa using hc 0 _ rfl, by simpa using hc 1 _ rfl, by simpa using hc 2 _ rfl⟩, h3⟩)
  have HHO := Lib.hid (show ∀ v X, Below w.heap.size w X → MV2 X v → Calls Tryz.prog 21 #[v, .int .u64 0, .int .i64 256] X fun e w' => ∃ (g o c : Nat), e = .returned (.tuple #[.slice (some ⟨g, o, none⟩) 64 c, .int .i64 0]) ∧ F4 g o w' ∧ Below X.heap.size X w' from fun v X hX hm => (holes_any X v twoM hm (hT.below hX) two_effs 0 (by decide) 256 (by decide)).mono fun e w' ⟨sv, h1, h2, h3⟩ => by
    rw [two_hol] at h2
    obtain ⟨A, c, e1, _, _, _, hall⟩ := h2
    obtain ⟨g, o, cs, e2, hg, _, hc, hE⟩ := hall 0 0 rfl
    subst e2
    rw [e1, two_holErr] at h1
    refine ⟨g, o, c, h1, ⟨hg, fun i hi => ?_⟩, h3⟩
    obtain ⟨g2, o2, cs2, e3, _, _, hc2, hE2⟩ := hall i i (by simp [hi])
    obtain ⟨rfl, rfl⟩ : g = g2 ∧ o = o2 := by cases e3; exact ⟨rfl, rfl⟩
    obtain ⟨rfl, _⟩ := hE2
    simpa using hc2 0 _ rfl)
  have HCO := Lib.hid (show ∀ v X, Below w.heap.size w X → MV2 X v → Calls Tryz.prog 23 #[v, .int .i64 0] X fun e w' => e = .returned (.tuple #[.int .u64 128, .int .i64 0]) ∧ Below X.heap.size X w' from fun v X hX hm => (amCount_any X v twoM hm (hT.below hX) two_effs 0 (by decide)).mono fun e w' ⟨h1, h2⟩ => by
    refine ⟨?_, h2⟩
    rw [h1, two_cnt]
    have h : amErr twoM [0] = 0 := by
      unfold amErr
      rw [if_pos two_chk]
      decide
    rw [h]
    rfl)
  have HF := Lib.hid (Below.refl w.heap.size w)
  clear hT
  go_enter Tryz.func26, Tryz.ntmps26
  have hbw : Below w.heap.size w w := Below.refl _ _
  go_wp2_with (first
    | (go_at_call 49; (with_reducible refine (HTW.out _ hbw).mono ?_); rintro e w1 ⟨v1, rfl, hm1, hb1⟩; have hbw := hbw.trans (hb1.mono hbw.size); (try have hf2 := F2.later hf2 hb1); (try have hf4 := F4.later hf4 hb1))
    | (go_at_call 18; (with_reducible refine (HCL.out _ _ hbw hm1).mono ?_); rintro e w2 ⟨g2, o2, c2, rfl, hf2, hb2⟩; have hbw := hbw.trans (hb2.mono hbw.size))
    | (go_at_call 21; (with_reducible refine (HHO.out _ _ hbw hm1).mono ?_); rintro e w4 ⟨g4, o4, c4, rfl, hf4, hb4⟩; have hbw := hbw.trans (hb4.mono hbw.size); have hf2 := F2.later hf2 hb4)
    | (go_at_call 23; (with_reducible refine (HCO.out _ _ hbw hm1).mono ?_); rintro e w6 ⟨rfl, hb6⟩; have hbw := hbw.trans (hb6.mono hbw.size); have hf2 := F2.later hf2 hb6; have hf4 := F4.later hf4 hb6; have HF4 := Lib.hid hf4; have hne := clash_neq; obtain ⟨_, z0, z1, z2⟩ := hf2))
  have HBW := Lib.hid hbw
  clear hbw hne z0 z1 z2
  go_loopw [7] (fun vi wr => ∃ i : Nat, vi = .int .i64 i ∧ i ≤ 64 ∧ wr = w6) (fun vi _ => 64 - (intOf vi).toNat)
  case atStart => exact ⟨0, rfl, by omega, by first | rfl | trivial⟩
  case round =>
    obtain ⟨i, rfl, hi, rfl⟩ := hrel
    by_cases hlt : i < 64
    · have hc := HF4.out.2 i hlt
      have hwi : IntKind.u64.wrap (i : Int) = (i : Int) := by have := wrap_nat i i (by omega); exact this
      have hin : (i : Int) < 64 := by omega
      have hi0 : (0 : Int) ≤ (i : Int) := by omega
      have HLT := Lib.hid hlt
      go_wp2
      go_roundw
      case rel => exact ⟨i + 1, by first | rfl | go_num | (congr 1), by have := HLT.out; omega, by first | rfl | trivial⟩
      case measure => simp only [intOf]; have := HLT.out; omega
    · obtain rfl : i = 64 := by omega
      go_wp2
      go_ret
      exact ⟨rfl, HBW.out⟩
theorem amb_alive {W : World} (hL : laidMetH Tryz.prog Rows.ambiguousOwnersRow.laid W) : ∀ Y, Below W.heap.size W Y → Calls Tryz.prog 26 #[] Y fun e w' => e = .returned (.bool true) ∧ Below Y.heap.size Y w' := fun Y hY => alive11_any Y ((amb_shapes W hL).below hY)
end Go.Proofs.YtnjlgllpfbkdoaaGreatDoor

