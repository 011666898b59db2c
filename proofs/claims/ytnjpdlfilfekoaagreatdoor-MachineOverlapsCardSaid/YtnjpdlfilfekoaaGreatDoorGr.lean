import Derived.Test.YtnjpdlfilfekoaaGreatDoorGq
import Derived.Test.YtnjpdlfilfekoaaGreatDoorGe
import Derived.Laws.OwnMore
import Derived.OwnWalk
import Derived.Maps.AppendAt
import Derived.Test.YtnjpdlfilfekoaaGreatDoorGp
import Derived.Laws.BitsAllLaws
import Derived.Laws.Bits128
import Derived.Deep.RegionHeld3
import Derived.OneCell
import Derived.Deep.Onto
namespace Go.Proofs.YtnjpdlfilfekoaaGreatDoor
open Go.RowKit
set_option linter.unusedVariables false
set_option linter.unusedSimpArgs false
set_option maxRecDepth 100000
def z51 (size : Int) (L : List MPiece) : Prop := (1 ≤ size ∧ size ≤ 32) ∧ L.length ≤ 4 ∧ z39 size 0 L
theorem z51.mask {size : Int} {L : List MPiece} (h : z51 size L) : zwm size L = (zf9 0 L, 0) := by
 obtain ⟨⟨h1, h2⟩, h3, h4⟩ := h
 unfold zwm
 rw [if_pos ⟨h1, by omega⟩, if_pos h3]
 exact (zjq L 0).2.1 h4
theorem z51.width {size : Int} {L : List MPiece} (h : z51 size L) : z2u L ≤ 32 := by
 have h1 := h.2.2.width
 have := h.1
 omega
theorem z96 {word : Int} (hw : 1 ≤ word ∧ word ≤ 4) : ∀ (L : List MPiece) (t : Nat), (z1u word t L).1 = true → z39 (8 * word) t L ∧ (z1u word t L).2 = zf9 t L
 | [], t, _ => ⟨trivial, rfl⟩
 | p :: L, t, h => by
   simp only [z1u] at h ⊢
   by_cases hp : z4a word p = true
   ·rw [if_pos hp] at h ⊢
    simp only [Bool.and_eq_true, decide_eq_true_eq] at h
    have hpo : pcOk (8 * word) p = true := by
     unfold z4a at hp
     simp only [Bool.and_eq_true, decide_eq_true_eq] at hp
     exact zbo.2 ⟨hp.1.1, hp.1.2, hp.2.1, hp.2.2⟩
    have hf : z7z p = pcM p := by
     unfold z7z pcM
     exact Nat.mod_eq_of_lt (zwv (size := 8 * word) (by omega) hpo).2
    rw [hf] at h
    obtain ⟨h1, h2⟩ := z96 hw L (t ||| pcM p) h.2
    rw [hf]
    exact ⟨⟨hpo, h.1, h1⟩, h2⟩
   ·rw [if_neg hp] at h; simp at h
def za3 (size : Int) : Nat → List MOper → Prop
 | _, [] => True
 | t, o :: l => z39 size t o.pieces ∧ za3 size (zf9 t o.pieces) l
theorem zaj {word address : Int} {B : List MBank} (hw : 1 ≤ word ∧ word ≤ 4) : ∀ (l : List MOper) (others : List MOper) (t : Nat), z1t word address B others t l = true → za3 (8 * word) t l ∧ ∀ o ∈ l, ∃ before, z4h address B before o = true
 | [], _, _, _ => ⟨trivial, fun o ho => by simp at ho⟩
 | o :: l, others, t, h => by
   simp only [z1t, Bool.and_eq_true] at h
   obtain ⟨⟨_, h1⟩, h2, h3⟩ := h
   obtain ⟨g1, g2⟩ := z96 hw o.pieces t h2
   rw [g2] at h3
   obtain ⟨k1, k2⟩ := zaj hw l (others ++ [o]) _ h3
   refine ⟨⟨g1, k1⟩, fun q hq => ?_⟩
   rcases List.mem_cons.1 hq with rfl | hq
   ·exact ⟨_, h1⟩
   ·exact k2 q hq
theorem za3.each {size : Int} : ∀ {l : List MOper} {t : Nat}, za3 size t l → ∀ o ∈ l, z39 size 0 o.pieces ∧ ∀ j, hasL o.pieces j = true → t.testBit j = false
 | p :: l, t, h, o, ho => by
   rcases List.mem_cons.1 ho with rfl | ho
   ·exact ⟨h.1.sub fun j hj => by simp at hj, fun j hj => h.1.free j hj⟩
   ·obtain ⟨h1, h2⟩ := za3.each h.2 o ho
    refine ⟨h1, fun j hj => ?_⟩
    have := h2 j hj
    rw [zfa] at this
    cases hb : t.testBit j <;> simp_all
theorem zba {m : Mach} (h : chkR m = 0) {i : MIns} (hi : i ∈ m.instrs) : (1 ≤ m.word ∧ m.word ≤ 4) ∧ i.opers.length ≤ 4 ∧ i.mask < 2 ^ (8 * m.word).toNat ∧ i.mtch &&& (18446744073709551615 - i.mask) = 0 ∧ za3 (8 * m.word) i.mask i.opers ∧
 (∀ o ∈ i.opers, z51 (8 * m.word) o.pieces) ∧ ∀ o ∈ i.opers, ∃ before, z4h m.address m.banks before o = true := by
 obtain ⟨hl, hh, _, _, _, hin⟩ := z2n h
 obtain ⟨_, _, _, _, _, h6⟩ := z5c hl
 obtain ⟨_, h7, h8⟩ := h6 i hi
 unfold z5g at hh
 simp only [Bool.and_eq_true, decide_eq_true_eq] at hh
 have hw := hh.2.1
 unfold z3j at hin
 simp only [Bool.and_eq_true, List.all_eq_true] at hin
 have h9 := hin.2 i hi
 unfold insR at h9
 simp only [Bool.and_eq_true] at h9
 obtain ⟨⟨ha, hb⟩, _⟩ := h9
 unfold z59 at ha
 simp only [Bool.and_eq_true, decide_eq_true_eq] at ha
 unfold z5o at hb
 simp only [Bool.and_eq_true] at hb
 obtain ⟨k1, k2⟩ := zaj hw i.opers [] i.mask hb.2
 refine ⟨hw, h7, ?_, ha.2.1, k1, fun o ho => ⟨⟨by omega, by omega⟩, h8 o ho, (k1.each o ho).1⟩, k2⟩
 have := ha.1
 unfold mk at this
 have := Nat.two_pow_pos (8 * m.word).toNat
 omega
end Go.Proofs.YtnjpdlfilfekoaaGreatDoor
namespace Go.Proofs.YtnjpdlfilfekoaaGreatDoor
open Go.RowKit Go.Instr
set_option linter.unusedVariables false
set_option linter.unusedSimpArgs false
set_option maxRecDepth 100000
theorem zkd (a b : Nat) (h : a % 18446744073709551616 = b) : IntKind.u64.wrap (a : Int) = (b : Nat) := by
 rw [← h]; simp [IntKind.wrap, IntKind.bits, IntKind.signed]
end Go.Proofs.YtnjpdlfilfekoaaGreatDoor
