/- The reader of package lexer in memory; the class of a byte; words. -/
import Derived.Test.YtejjbbgompddeaaDoorChecked
import Derived.Test.YtejjbbgompddeaaDoorLexMath
import Derived.WalkKit
import Derived.Handy
import Derived.WalkLawsBesides
import Derived.WalkSpells
import Derived.OneCell
import Derived.OwnWalk
import Derived.Lib.Hide
import Derived.Lib.IndexBytes
import Derived.BigQuiet
import Derived.Deep.QuietTactic
namespace Go.Proofs.YtejjbbgompddeaaDoor
open Go.RowKit
set_option linter.unusedVariables false
set_option linter.unusedSimpArgs false

theorem grown_trans {a b c : World} {row : Option Nat} (h : a.grownBy b row) (k : b.grownBy c row) : a.grownBy c row :=
  ⟨k.os.trans h.os, k.tape.trans h.tape, k.output.trans h.output, Nat.le_trans h.size k.size, fun i hi hr => (k.block i (Nat.lt_of_lt_of_le hi h.size) hr).trans (h.block i hi hr)⟩
theorem grown_below {a b : World} {row : Option Nat} (h : Below a.heap.size a b) : a.grownBy b row :=
  ⟨h.os, h.tape, h.output, h.size, fun i hi _ => h.block i hi⟩
theorem grown_set (w : World) (a : Addr) (v : Value) : w.grownBy (w.setCell a v) (some a.block) :=
  ⟨rfl, rfl, rfl, by simp, fun k _ hr => Below.heap_setCell _ _ _ _ (fun e => hr (by rw [e]))⟩
theorem below_grown {B : Nat} {a b : World} {r : Nat} (h : a.grownBy b (some r)) (hB : B ≤ r) (hs : B ≤ a.heap.size) : Below B a b :=
  ⟨h.os, h.tape, h.output, h.size, fun k hk => h.block k (by omega) (by simp; omega)⟩

/-- The table of classes, as the program lays it. -/
def ClsAt (w : World) : Prop := (∀ k, k < 126 → w.cell? ⟨0, k, none⟩ = some (.int .u8 (cls k : Nat))) ∧ 0 < w.heap.size
theorem ClsAt.grown {w w' : World} {r : Nat} (h : ClsAt w) (hg : w.grownBy w' (some r)) (hr : 0 < r) : ClsAt w' :=
  ⟨fun k hk => hg.cell (h.1 k hk) (by simp; omega), Nat.lt_of_lt_of_le h.2 hg.size⟩
theorem ClsAt.below {w w' : World} (h : ClsAt w) (hb : Below w.heap.size w w') : ClsAt w' :=
  ⟨fun k hk => by rw [hb.cell (p := ⟨0, k, none⟩) h.2]; exact h.1 k hk, Nat.lt_of_lt_of_le h.2 hb.size⟩

/-- A reader in memory. -/
def RdAt (w : World) (r : Nat) (bs : ByteArray) (a : Nat) (m : Option Nat) : Prop := w.heap[r]? = some (.cells #[.string bs, .int .i64 a, .map m] 46 (0, 0))
section
variable {w : World} {r : Nat} {bs : ByteArray} {a : Nat} {m : Option Nat}
theorem RdAt.c0 (h : RdAt w r bs a m) : w.cell? ⟨r, 0, none⟩ = some (.string bs) := by unfold RdAt at h; simp [World.cell?, h]
theorem RdAt.c1 (h : RdAt w r bs a m) : w.cell? ⟨r, 1, none⟩ = some (.int .i64 a) := by unfold RdAt at h; simp [World.cell?, h]
theorem RdAt.c2 (h : RdAt w r bs a m) : w.cell? ⟨r, 2, none⟩ = some (.map m) := by unfold RdAt at h; simp [World.cell?, h]
theorem RdAt.f0 (h : RdAt w r bs a m) : w.frozen? ⟨r, 0, none⟩ = false := by unfold RdAt at h; simp [World.frozen?, h]
theorem RdAt.f1 (h : RdAt w r bs a m) : w.frozen? ⟨r, 1, none⟩ = false := by unfold RdAt at h; simp [World.frozen?, h]
theorem RdAt.f2 (h : RdAt w r bs a m) : w.frozen? ⟨r, 2, none⟩ = false := by unfold RdAt at h; simp [World.frozen?, h]
theorem RdAt.lt (h : RdAt w r bs a m) : r < w.heap.size := lt_of_block h
theorem RdAt.below {w' : World} (h : RdAt w r bs a m) (hb : Below w.heap.size w w') : RdAt w' r bs a m := by
  have := h.lt; unfold RdAt at h ⊢; rw [hb.block r this]; exact h
theorem RdAt.other {w' : World} {q : Nat} (h : RdAt w r bs a m) (hg : w.grownBy w' (some q)) (hq : r ≠ q) : RdAt w' r bs a m := by
  have := h.lt; unfold RdAt at h ⊢; rw [hg.block r this (by simpa using hq)]; exact h
theorem RdAt.set1 (h : RdAt w r bs a m) (b : Nat) : RdAt (w.setCell ⟨r, 1, none⟩ (.int .i64 b)) r bs b m := by
  have hlt := h.lt
  unfold RdAt at h ⊢
  have h' : w.heap[r] = .cells #[.string bs, .int .i64 a, .map m] 46 (0, 0) := by simpa [Array.getElem?_eq_getElem hlt] using h
  show (w.heap.modify r _)[r]? = _
  rw [Array.getElem?_eq_getElem (by simpa using hlt), Array.getElem_modify_self, h']
  rfl
theorem RdAt.set0 (h : RdAt w r bs a m) (bs' : ByteArray) : RdAt (w.setCell ⟨r, 0, none⟩ (.string bs')) r bs' a m := by
  have hlt := h.lt
  unfold RdAt at h ⊢
  have h' : w.heap[r] = .cells #[.string bs, .int .i64 a, .map m] 46 (0, 0) := by simpa [Array.getElem?_eq_getElem hlt] using h
  show (w.heap.modify r _)[r]? = _
  rw [Array.getElem?_eq_getElem (by simpa using hlt), Array.getElem_modify_self, h']
  rfl
end

/-- The class at a place. -/
def clsI (l : List UInt8) (i : Nat) : Nat := match l[i]? with | none => 0 | some c => cls c.toNat
theorem cls_high (c : Nat) (h : 126 ≤ c) : cls c = 0 := by
  unfold cls markN digN letN
  simp
  repeat' split
  all_goals omega
theorem clsI_out {l : List UInt8} {i : Nat} (h : l.length ≤ i) : clsI l i = 0 := by simp [clsI, List.getElem?_eq_none h]
theorem clsI_at {l : List UInt8} {i : Nat} {c : UInt8} (h : l[i]? = some c) : clsI l i = cls c.toNat := by simp [clsI, h]

set_option maxRecDepth 100000 in
theorem class_any (r i a : Nat) (m : Option Nat) (bs : ByteArray) (w : World) (hr : RdAt w r bs a m) (hT : ClsAt w) (hbs : bs.size ≤ 1000000) (hi : i ≤ 1000000) :
    Calls Tryd.prog 37 #[.pointer (some ⟨r, 0, none⟩), .int .i64 i] w fun e w' => e = .returned (.int .u8 (clsI bs.data.toList i : Nat)) ∧ w = w' := by
  have c0 := hr.c0
  obtain ⟨L, hL⟩ : ∃ L, bs.size = L := ⟨_, rfl⟩
  by_cases hlt : i < L
  · have hib : i < bs.size := by omega
    obtain ⟨c, hc⟩ : ∃ c : UInt8, bs[i]'hib = c := ⟨_, rfl⟩
    have hd : bs.data.toList[i]? = some c := by rw [Lib.data_getElem? bs i hib, hc]
    obtain ⟨q, hq⟩ : ∃ q, clsI bs.data.toList i = q := ⟨_, rfl⟩
    rw [hq]
    by_cases h126 : c.toNat < 126
    · have hcell := hT.1 c.toNat h126
      have hqc : q = cls c.toNat := by rw [← hq, clsI_at hd]
      rw [← hqc] at hcell
      have hg1 : decide ((L : Int) ≤ (i : Int)) = false := by simp; omega
      have hg2 : decide ((126 : Int) ≤ (c.toNat : Int)) = false := by simp; omega
      have h126' : (c.toNat : Int) < 126 := by omega
      clear hq hd hqc hT hr
      go_enter Tryd.func37, Tryd.ntmps37
      go_wp2
      go_ret
      exact ⟨rfl, rfl⟩
    · have hq0 : q = 0 := by rw [← hq, clsI_at hd, cls_high _ (by omega)]
      subst hq0
      have hg1 : decide ((L : Int) ≤ (i : Int)) = false := by simp; omega
      have h255 : (c.toNat : Int) ≤ 255 := by have := c.toNat_lt; omega
      have h126' : ¬ (c.toNat : Int) < 126 := by omega
      have hg2 : decide ((126 : Int) ≤ (c.toNat : Int)) = true := by simp; omega
      clear hq hd hT hr
      go_enter Tryd.func37, Tryd.ntmps37
      go_wp2
      go_ret
      exact ⟨rfl, rfl⟩
  · have hq : clsI bs.data.toList i = 0 := clsI_out (by have : bs.data.toList.length = bs.size := rfl; omega)
    rw [hq]
    have hg1 : decide ((L : Int) ≤ (i : Int)) = true := by simp; omega
    clear hq hT hr
    go_enter Tryd.func37, Tryd.ntmps37
    go_wp2
    go_ret
    exact ⟨rfl, rfl⟩
end Go.Proofs.YtejjbbgompddeaaDoor
