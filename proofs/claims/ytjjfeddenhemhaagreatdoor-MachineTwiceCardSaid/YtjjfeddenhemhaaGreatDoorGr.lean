import Derived.Test.YtjjfeddenhemhaaGreatDoorGq
import Derived.Test.YtjjfeddenhemhaaGreatDoorGe
import Derived.Laws.OwnMore
import Derived.OwnWalk
import Derived.Maps.AppendAt
import Derived.Test.YtjjfeddenhemhaaGreatDoorGp
namespace Go.Proofs.YtjjfeddenhemhaaGreatDoor
open Go.RowKit
set_option linter.unusedVariables false
set_option linter.unusedSimpArgs false
set_option maxRecDepth 100000
def z58 (size : Int) (L : List MPiece) : Prop := (1 ≤ size ∧ size ≤ 32) ∧ L.length ≤ 4 ∧ z3g size 0 L
theorem z58.mask {size : Int} {L : List MPiece} (h : z58 size L) : zx0 size L = (zfl 0 L, 0) := by
 obtain ⟨⟨h1, h2⟩, h3, h4⟩ := h
 unfold zx0
 rw [if_pos ⟨h1, by omega⟩, if_pos h3]
 exact (zk0 L 0).2.1 h4
theorem z58.width {size : Int} {L : List MPiece} (h : z58 size L) : z2z L ≤ 32 := by
 have h1 := h.2.2.width
 have := h.1
 omega
theorem z9l {word : Int} (hw : 1 ≤ word ∧ word ≤ 4) : ∀ (L : List MPiece) (t : Nat), (z1v word t L).1 = true → z3g (8 * word) t L ∧ (z1v word t L).2 = zfl t L
 | [], t, _ => ⟨trivial, rfl⟩
 | p :: L, t, h => by
   simp only [z1v] at h ⊢
   by_cases hp : z4g word p = true
   ·rw [if_pos hp] at h ⊢
    simp only [Bool.and_eq_true, decide_eq_true_eq] at h
    have hpo : pcOk (8 * word) p = true := by
     unfold z4g at hp
     simp only [Bool.and_eq_true, decide_eq_true_eq] at hp
     exact zc0.2 ⟨hp.1.1, hp.1.2, hp.2.1, hp.2.2⟩
    have hf : z8d p = pcM p := by
     unfold z8d pcM
     exact Nat.mod_eq_of_lt (zx9 (size := 8 * word) (by omega) hpo).2
    rw [hf] at h
    obtain ⟨h1, h2⟩ := z9l hw L (t ||| pcM p) h.2
    rw [hf]
    exact ⟨⟨hpo, h.1, h1⟩, h2⟩
   ·rw [if_neg hp] at h; simp at h
def zag (size : Int) : Nat → List MOper → Prop
 | _, [] => True
 | t, o :: l => z3g size t o.pieces ∧ zag size (zfl t o.pieces) l
theorem zaw {word address : Int} {B : List MBank} (hw : 1 ≤ word ∧ word ≤ 4) : ∀ (l : List MOper) (others : List MOper) (t : Nat), z1u word address B others t l = true → zag (8 * word) t l ∧ ∀ o ∈ l, ∃ before, z4o address B before o = true
 | [], _, _, _ => ⟨trivial, fun o ho => by simp at ho⟩
 | o :: l, others, t, h => by
   simp only [z1u, Bool.and_eq_true] at h
   obtain ⟨⟨_, h1⟩, h2, h3⟩ := h
   obtain ⟨g1, g2⟩ := z9l hw o.pieces t h2
   rw [g2] at h3
   obtain ⟨k1, k2⟩ := zaw hw l (others ++ [o]) _ h3
   refine ⟨⟨g1, k1⟩, fun q hq => ?_⟩
   rcases List.mem_cons.1 hq with rfl | hq
   ·exact ⟨_, h1⟩
   ·exact k2 q hq
theorem zag.each {size : Int} : ∀ {l : List MOper} {t : Nat}, zag size t l → ∀ o ∈ l, z3g size 0 o.pieces ∧ ∀ j, hasL o.pieces j = true → t.testBit j = false
 | p :: l, t, h, o, ho => by
   rcases List.mem_cons.1 ho with rfl | ho
   ·exact ⟨h.1.sub fun j hj => by simp at hj, fun j hj => h.1.free j hj⟩
   ·obtain ⟨h1, h2⟩ := zag.each h.2 o ho
    refine ⟨h1, fun j hj => ?_⟩
    have := h2 j hj
    rw [zfm] at this
    cases hb : t.testBit j <;> simp_all
theorem zbn {m : Mach} (h : chkR m = 0) {i : MIns} (hi : i ∈ m.instrs) : (1 ≤ m.word ∧ m.word ≤ 4) ∧ i.opers.length ≤ 4 ∧ i.mask < 2 ^ (8 * m.word).toNat ∧ i.mtch &&& (18446744073709551615 - i.mask) = 0 ∧ zag (8 * m.word) i.mask i.opers ∧
 (∀ o ∈ i.opers, z58 (8 * m.word) o.pieces) ∧ ∀ o ∈ i.opers, ∃ before, z4o m.address m.banks before o = true := by
 obtain ⟨hl, hh, _, _, _, hin⟩ := z2t h
 obtain ⟨_, _, _, _, _, h6⟩ := z5j hl
 obtain ⟨_, h7, h8⟩ := h6 i hi
 unfold z5n at hh
 simp only [Bool.and_eq_true, decide_eq_true_eq] at hh
 have hw := hh.2.1
 unfold z3q at hin
 simp only [Bool.and_eq_true, List.all_eq_true] at hin
 have h9 := hin.2 i hi
 unfold insR at h9
 simp only [Bool.and_eq_true] at h9
 obtain ⟨⟨ha, hb⟩, _⟩ := h9
 unfold z5g at ha
 simp only [Bool.and_eq_true, decide_eq_true_eq] at ha
 unfold z5w at hb
 simp only [Bool.and_eq_true] at hb
 obtain ⟨k1, k2⟩ := zaw hw i.opers [] i.mask hb.2
 refine ⟨hw, h7, ?_, ha.2.1, k1, fun o ho => ⟨⟨by omega, by omega⟩, h8 o ho, (k1.each o ho).1⟩, k2⟩
 have := ha.1
 unfold mk at this
 have := Nat.two_pow_pos (8 * m.word).toNat
 omega
end Go.Proofs.YtjjfeddenhemhaaGreatDoor
