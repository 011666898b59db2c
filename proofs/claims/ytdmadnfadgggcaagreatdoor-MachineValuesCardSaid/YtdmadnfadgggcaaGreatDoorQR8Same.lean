import Derived.Test.YtdmadnfadgggcaaGreatDoorQR8Defs
import Derived.Test.YtdmadnfadgggcaaGreatDoorGr
set_option linter.unusedVariables false
set_option linter.unusedSimpArgs false
set_option warningAsError false
namespace Go.Proofs.YtdmadnfadgggcaaGreatDoor
open Go.RowKit
set_option maxRecDepth 100000
theorem zh0 {word : Int} (hw : 1 <= word /\ word <= 4) (p : MPiece) : pcOk (8 * word) p = true ↔ zv word p = true := by rw [z62];unfold zv;simp only [Bool.and_eq_true, decide_eq_true_eq];omega
theorem z9k {word : Int} (hw : 1 <= word /\ word <= 4) : ∀ (L : List MPiece) (t : Nat), z2k (8 * word) t L -> (z1p word t L).1 = true /\ (z1p word t L).2 = z7a t L
 | [], t, _ => ⟨rfl, rfl⟩
 | p :: L, t, h => by
   obtain ⟨h1, h2, h3⟩ := h;have hp := (zh0 hw p).1 h1;have hf : z4k p = pcM p := by unfold z4k pcM;exact Nat.mod_eq_of_lt (zb6 (size := 8 * word) (by omega) h1).2
   obtain ⟨g1, g2⟩ := z9k hw L _ h3;simp only [z1p];rw [if_pos hp, hf, g1, g2, h2];exact ⟨rfl, rfl⟩
theorem z6m {word address : Int} {B : List MBank} (hw : 1 <= word /\ word <= 4) : ∀ (l others : List MOper) (t : Nat), z2n word address B others t l = true ↔
 (∀ i o, l[i]? = some o -> o.name ≠ z1a /\ z4l address B (others ++ l.take i) o = true) /\ z4i (8 * word) t l
 | [], _, _ => ⟨fun _ => ⟨fun i o h => by simp at h, trivial⟩, fun _ => rfl⟩
 | o :: l, others, t => by
   simp only [z2n, Bool.and_eq_true, decide_eq_true_eq];constructor
   ·rintro ⟨⟨h1, h2⟩, h3, h4⟩;obtain ⟨g1, g2⟩ := z6o hw o.pieces t h3;rw [g2] at h4;obtain ⟨k1, k2⟩ := (z6m hw l (others ++ [o]) _).1 h4;refine ⟨fun i x hx => ?_, g1, k2⟩
    cases i with
    | zero => simp at hx; subst hx; exact ⟨h1, by simpa using h2⟩
    | succ i => have := k1 i x (by simpa using hx);simpa using this
   ·rintro ⟨h1, h2, h3⟩;obtain ⟨g1, g2⟩ := z9k hw o.pieces t h2;have h0 := h1 0 o rfl;refine ⟨⟨h0.1, by simpa using h0.2⟩, g1, ?_⟩;rw [g2];refine (z6m hw l (others ++ [o]) _).2 ⟨fun i x hx => ?_, h3⟩;have := h1 (i + 1) x (by simpa using hx);simpa using this
theorem z6a {size : Int} : ∀ (L M : List MPiece) (t : Nat), z2k size t (L ++ M) ↔ z2k size t L /\ z2k size (z7a t L) M
 | [], M, t => by simp [z2k, z7a]
 | x :: L, M, t => by
   simp only [List.cons_append, z2k, z7a];rw [z6a L M];constructor
   ·rintro ⟨a, b, c, d⟩; exact ⟨⟨a, b, c⟩, d⟩
   ·rintro ⟨⟨a, b, c⟩, d⟩; exact ⟨a, b, c, d⟩
theorem zb1 {size : Int} : ∀ (l : List MOper) (t : Nat), z4i size t l ↔ z2k size t (l.flatMap fun o => o.pieces)
 | [], t => by simp [z4i, z2k]
 | o :: l, t => by rw [List.flatMap_cons, z6a, <- zb1 l];exact Iff.rfl
theorem z2x (x b : Nat) : x / 2 ^ b % 2 = if x.testBit b = true then 1 else 0 := by
 rw [Nat.testBit_eq_decide_div_mod_eq];have := Nat.mod_lt (x / 2 ^ b) (show 0 < 2 by decide);by_cases h : x / 2 ^ b % 2 = 1
 ·simp [h]
 ·simp only [decide_eq_true_eq, if_neg h]; omega
theorem za9 {word : Int} {p : MPiece} (h : zv word p = true) (b : Nat) : inP (b : Int) p = p.has b := by unfold zv at h;simp only [Bool.and_eq_true, decide_eq_true_eq] at h;unfold inP MPiece.has MPiece.p MPiece.l;apply Bool.eq_iff_iff.2;simp only [decide_eq_true_eq];omega
theorem z7z {word : Int} (hw : 1 <= word /\ word <= 4) : ∀ (L : List MPiece) (t : Nat), t < 2 ^ (8 * word).toNat -> (z2k (8 * word) t L ↔ (∀ p ∈ L, zv word p = true) /\ ∀ b, b < (8 * word).toNat -> t / 2 ^ b % 2 + cntP (b : Int) L <= 1)
 | [], t, ht => by
   constructor
   ·intro _;exact ⟨fun p hp => by simp at hp, fun b hb => by rw [show cntP (b : Int) [] = 0 from rfl]; omega⟩
   ·intro _; trivial
 | p :: L, t, ht => by
   have hcut : ∀ b, cntP (b : Int) (p :: L) = cntP (b : Int) L + (if inP (b : Int) p = true then 1 else 0) := fun b => by unfold cntP; rw [List.countP_cons]
   constructor
   ·rintro ⟨h1, h2, h3⟩;have hp := (zh0 hw p).1 h1;have hl := Nat.or_lt_two_pow ht (zb6 (size := 8 * word) (by omega) h1).1;obtain ⟨k1, k2⟩ := (z7z hw L _ hl).1 h3;refine ⟨fun q hq => ?_, fun b hb => ?_⟩
    ·rcases List.mem_cons.1 hq with rfl | hq
     ·exact hp
     ·exact k1 q hq
    ·have h4 := k2 b hb;rw [z2x, Nat.testBit_or, z3r] at h4;rw [hcut, za9 hp, z2x];have h5 := z2o.1 h2 b;rw [z3r] at h5;cases h6 : t.testBit b <;> cases h7 : p.has b <;> rw [h6, h7] at h4 h5 <;> simp at h4 h5 ⊢ <;> omega
   ·rintro ⟨h1, h2⟩;have hp := h1 p (by simp);have hpc := (zh0 hw p).2 hp;have hl := zb6 (size := 8 * word) (by omega) hpc;have hdis : t &&& pcM p = 0 := by
     rw [z2o];rintro b ⟨h3, h4⟩;have hb : b < (8 * word).toNat := by
      rcases Nat.lt_or_ge b (8 * word).toNat with h | h
      ·exact h
      ·rw [Nat.testBit_lt_two_pow (Nat.lt_of_lt_of_le ht (Nat.pow_le_pow_right (by decide) h))] at h3; cases h3
     have h5 := h2 b hb;rw [z3r] at h4;rw [hcut, za9 hp, h4, z2x, h3] at h5;simp at h5;omega
    refine ⟨hpc, hdis, (z7z hw L _ (Nat.or_lt_two_pow ht hl.1)).2 ⟨fun q hq => h1 q (List.mem_cons_of_mem _ hq), fun b hb => ?_⟩⟩;have h5 := h2 b hb;have h6 := z2o.1 hdis b;rw [z3r] at h6;rw [z2x, Nat.testBit_or, z3r];rw [hcut, za9 hp, z2x] at h5;cases h7 : t.testBit b <;> cases h8 : p.has b <;> rw [h7, h8] at h5 h6 <;> simp at h5 h6 ⊢ <;> omega
theorem z8t (b : Int) : ∀ O : List MOper, cntO b O = cntP b (O.flatMap fun o => o.pieces)
 | [] => rfl
 | o :: O => by rw [List.flatMap_cons];unfold cntP;rw [List.countP_append];have := z8t b O;unfold cntO cntP at this ⊢;rw [List.map_cons, List.sum_cons, this]
theorem z5n {word : Int} (hw : 1 <= word /\ word <= 4) {mask : Nat} (hm : mask < 2 ^ (8 * word).toNat) (O : List MOper) : z4i (8 * word) mask O ↔ (∀ o ∈ O, o.pieces.all (zv word) = true) /\ z4u word mask O = true := by
 rw [zb1, z7z hw _ _ hm];unfold z4u;simp only [List.all_eq_true, List.mem_range, decide_eq_true_eq, List.mem_flatMap, z8t];constructor
 ·rintro ⟨h1, h2⟩; exact ⟨fun o ho p hp => h1 p ⟨o, ho, hp⟩, h2⟩
 ·rintro ⟨h1, h2⟩; exact ⟨fun p ⟨o, ho, hp⟩ => h1 o ho p hp, h2⟩
theorem zfl {word : Int} (hw : 1 <= word /\ word <= 4) {L : List MPiece} {t : Nat} (h : z2k (8 * word) t L) : fwR 0 L = (z2w L : Nat) /\ z2w L <= 32 := by
 have h1 := h.width;have key : ∀ (L : List MPiece) (a : Nat), (∀ x ∈ L, pcOk (8 * word) x = true) -> a + z2w L <= 1000 -> fwR (a : Int) L = ((a + z2w L : Nat) : Int) := by
  intro L
  induction L with
  | nil => intro a _ _; simp [fwR, z2w]
  | cons x L ih =>
    intro a hx hl;have h2 := z62.1 (hx x (by simp));rw [z2w] at hl;have h3 : x.len = (x.l : Nat) := (by unfold MPiece.l; omega);rw [fwR, h3, zd _ (by omega) (by omega), show (a : Int) + (x.l : Nat) = ((a + x.l : Nat) : Int) by omega, ih _ (fun y hy => hx y (List.mem_cons_of_mem _ hy)) (by omega), z2w]
    congr 1
    omega
 have h2 : z2w L <= 32 := by omega
 have := key L 0 (fun x hx => (h.mem x hx).1) (by omega);exact ⟨by simpa using this, h2⟩
theorem zgh {word : Int} {L : List MPiece} (h : ∀ p ∈ L, zv word p = true) : 0 < z2w L ↔ 0 < L.length := by
 cases L with
 | nil => simp [z2w]
 | cons p L => have h1 := h p (by simp);unfold zv at h1;simp only [Bool.and_eq_true, decide_eq_true_eq] at h1;simp only [z2w, MPiece.l, List.length_cons];omega
theorem z9f {word address : Int} (hw : 1 <= word /\ word <= 4) {B : List MBank} (hB : ∀ b ∈ B, 0 < b.regs.length /\ b.regs.length <= 64) (ops : List MOper) (i : Nat) (o : MOper) (hi : i <= ops.length) {t : Nat} (hg : z2k (8 * word) t o.pieces) (hp : ∀ p ∈ o.pieces, zv word p = true) :
 z6l address B ops i o = z4l address B (ops.take i) o := by
 obtain ⟨hf, h32⟩ := zfl hw hg;have hpos := zgh hp;unfold z6l z4l;rw [hf];obtain ⟨n, hn⟩ : ∃ z, z2w o.pieces = z := ⟨_, rfl⟩;rw [hn] at h32 hpos ⊢;by_cases hk : o.kind = 1
 ·rw [if_pos hk, if_pos hk];by_cases hb : 0 <= o.bank /\ o.bank <= (B.length : Int) - 1
  ·obtain ⟨b, hbk⟩ : ∃ b, B[o.bank.toNat]? = some b := ⟨_, List.getElem?_eq_getElem (by omega)⟩;rw [if_pos hb, if_pos hb.1, hbk];simp only;by_cases hs : o.scale = 0
   ·rw [if_pos hs, if_neg (show ¬ (o.scale ≠ 0) from fun h => h hs)];by_cases ht : o.tied = -1
    ·rw [if_pos ht, if_pos ht];have hbb := hB b (List.mem_of_getElem? hbk);simp only [Option.map_some, Option.getD_some, Int.toNat_natCast];apply Bool.eq_iff_iff.2;unfold z4n okB;simp only [Bool.and_eq_true, Bool.or_eq_true, decide_eq_true_eq, Int.toNat_natCast];have e : ((b.regs.length : Int) - 1).toNat = b.regs.length - 1 := (by omega);rw [e];constructor
     ·rintro ⟨h1, h2⟩;refine ⟨by omega, by omega, ?_⟩;rcases h2 with h2 | h2
      ·have : 2 ^ 6 <= 2 ^ n := Nat.pow_le_pow_right (by decide) (by omega);omega
      ·omega
     ·rintro ⟨h1, _, h2⟩;exact ⟨by omega, .inr (by omega)⟩
    ·rw [if_neg ht, if_neg ht];unfold z59;by_cases h0 : 0 <= o.tied
     ·rw [if_pos h0];by_cases hr : o.tied <= (i : Int) - 1
      ·have htk : (ops.take i)[o.tied.toNat]? = ops[o.tied.toNat]? := (by rw [List.getElem?_take, if_pos (by omega)]);rw [if_pos ⟨h0, hr⟩, htk];by_cases hl : o.pieces.length = 0
       ·rw [if_pos hl, decide_eq_true hl, Bool.true_and]
        cases ops[o.tied.toNat]? with
        | none => rfl
        | some y =>
          simp only
          congr 1
          exact decide_eq_decide.2 (by omega)
       ·rw [if_neg hl, decide_eq_false hl, Bool.false_and]
      ·have htk : (ops.take i)[o.tied.toNat]? = none := (by rw [List.getElem?_take, if_neg (by omega)]);rw [if_neg (fun h => hr h.2), htk];simp
     ·rw [if_neg h0, if_neg (fun h => h0 h.1)]; simp
   ·rw [if_neg hs, if_pos (show o.scale ≠ 0 from hs)]
  ·rw [if_neg hb];by_cases h0 : 0 <= o.bank
   ·rw [if_pos h0, List.getElem?_eq_none (by omega)]
   ·rw [if_neg h0]
 ·rw [if_neg hk, if_neg hk];by_cases h2 : o.kind = 2 ∨ o.kind = 3 ∨ o.kind = 4
  ·rw [if_pos h2, if_pos h2];apply Bool.eq_iff_iff.2;simp only [Bool.and_eq_true, decide_eq_true_eq];omega
  ·rw [if_neg h2, if_neg h2]
theorem z6h : ∀ (l met : List ByteArray), zq met l = true ↔ ∀ i s, l[i]? = some s -> z1t s = true /\ s ∉ met ++ l.take i
 | [], met => by simp [zq]
 | s :: l, met => by
   unfold zq;rw [Bool.and_eq_true, z6h l (met ++ [s])];simp only [Bool.and_eq_true, Bool.not_eq_true', decide_eq_false_iff_not];constructor
   ·rintro ⟨⟨h1, h2⟩, h3⟩ i x hx
    cases i with
    | zero => simp at hx; subst hx; exact ⟨h2, by simpa using h1⟩
    | succ i => have := h3 i x (by simpa using hx);exact ⟨this.1, by simpa using this.2⟩
   ·intro h;have h0 := h 0 s rfl;refine ⟨⟨by simpa using h0.2, h0.1⟩, fun i x hx => ?_⟩;have := h (i + 1) x (by simpa using hx);exact ⟨this.1, by simpa using this.2⟩
theorem z3p {l : List ByteArray} (h : zq [] l = true) : l.Nodup := by rw [List.nodup_iff_pairwise_ne, List.pairwise_iff_getElem];intro i j hi hj hij e;have := ((z6h l []).1 h j _ (List.getElem?_eq_getElem hj)).2;apply this;rw [List.nil_append, <- e];exact List.mem_of_getElem? (i := i) (by rw [List.getElem?_take, if_pos hij, List.getElem?_eq_getElem hi])
theorem z5r {word address : Int} (hw : 1 <= word /\ word <= 4) {B : List MBank} (hB : ∀ b ∈ B, 0 < b.regs.length /\ b.regs.length <= 64) {mask : Nat} (hm : mask < 2 ^ (8 * word).toNat) (ops : List MOper) :
 (opers8 word address B ops = true /\ z4u word mask ops = true) ↔ z3a word address B mask ops = true := by
 have h8 : opers8 word address B ops = true ↔ ∀ i o, ops[i]? = some o -> z3b word address B ops i o = true := by
  unfold opers8;rw [List.all_eq_true];constructor
  ·intro h i o ho;have := h i (List.mem_range.2 (List.getElem?_eq_some_iff.1 ho).1);unfold z4q at this;rw [ho] at this;exact this
  ·intro h i hi;obtain ⟨o, ho⟩ : ∃ o, ops[i]? = some o := ⟨_, List.getElem?_eq_getElem (List.mem_range.1 hi)⟩;unfold z4q;rw [ho];exact h i o ho
 rw [h8];unfold z3a;rw [Bool.and_eq_true, z6m hw, z5n hw hm, z6h];have hnm : ∀ s : ByteArray, (s.toList == z1a.toList) = false ↔ s ≠ z1a := fun s => by rw [<- Bool.not_eq_true, z36]
 constructor
 ·rintro ⟨h1, h2⟩;have h3 : ∀ o ∈ ops, o.pieces.all (zv word) = true := fun o ho => by
   obtain ⟨i, hi⟩ := List.getElem?_of_mem ho;have := h1 i o hi;unfold z3b at this;simp only [Bool.and_eq_true] at this;exact this.2.2.1
  have hlay := (z5n hw hm ops).2 ⟨h3, h2⟩;refine ⟨fun i s hs => ?_, fun i o ho => ?_, h3, h2⟩
  ·rw [List.getElem?_map] at hs
   cases ho : ops[i]? with
   | none => rw [ho] at hs; cases hs
   | some o => rw [ho] at hs;obtain rfl := Option.some.inj hs;have := h1 i o ho;unfold z3b at this;simp only [Bool.and_eq_true, Bool.not_eq_true', decide_eq_false_iff_not] at this;exact ⟨this.1, by simpa using this.2.2.2.1⟩
  ·have := h1 i o ho;unfold z3b at this;simp only [Bool.and_eq_true, Bool.not_eq_true', hnm] at this;refine ⟨this.2.1, ?_⟩;rw [List.nil_append, <- z9f hw hB ops i o (Nat.le_of_lt (List.getElem?_eq_some_iff.1 ho).1) (z4i.each hlay o (List.mem_of_getElem? ho)).1 (List.all_eq_true.1 this.2.2.1)];exact this.2.2.2.2
 ·rintro ⟨h1, h2, h3, h4⟩;have hlay := (z5n hw hm ops).2 ⟨h3, h4⟩;refine ⟨fun i o ho => ?_, h4⟩;have hn := h1 i o.name (by rw [List.getElem?_map, ho]; rfl);have hk := h2 i o ho;have hpp := h3 o (List.mem_of_getElem? ho);unfold z3b;rw [z9f hw hB ops i o (Nat.le_of_lt (List.getElem?_eq_some_iff.1 ho).1) (z4i.each hlay o (List.mem_of_getElem? ho)).1 (List.all_eq_true.1 hpp)];simp only [Bool.and_eq_true, Bool.not_eq_true', hnm, decide_eq_false_iff_not];exact ⟨hn.1, hk.1, hpp, by simpa using hn.2, by simpa using hk.2⟩
theorem zc7 {mask mtch : Nat} (h1 : mask < 18446744073709551616) (h2 : mtch < 18446744073709551616) : match8 mask mtch = true ↔ mtch &&& (18446744073709551615 - mask) = 0 := by
 have hc : ∀ b, b < 64 -> (18446744073709551615 - mask).testBit b = !mask.testBit b := fun b hb => by have := Nat.testBit_two_pow_sub_succ (x := mask) (n := 64) (by omega) b;rw [show (2 : Nat) ^ 64 - (mask + 1) = 18446744073709551615 - mask by omega] at this;rw [this];simp [hb]
 rw [z2o];unfold match8;simp only [List.all_eq_true, List.mem_range, decide_eq_true_eq, z2x];constructor
 ·rintro h b ⟨g1, g2⟩;have hb : b < 64 := by
   rcases Nat.lt_or_ge b 64 with h | h
   ·exact h
   ·rw [Nat.testBit_lt_two_pow (Nat.lt_of_lt_of_le h2 (Nat.pow_le_pow_right (n := 2) (by decide) h))] at g1; cases g1
  have := h b hb;rw [hc b hb] at g2;rw [g1] at this;cases hq : mask.testBit b
  ·rw [hq] at this; simp at this
  ·rw [hq] at g2; cases g2
 ·intro h b hb;have := h b;rw [hc b hb] at this;cases hq : mask.testBit b <;> cases hr : mtch.testBit b <;> simp_all
theorem z7e {m : Mach} (hl : limM m = true) (hb : z22 m.regs m.banks = true) : ∀ b ∈ m.banks, 0 < b.regs.length /\ b.regs.length <= 64 := fun b hbm => by unfold z22 at hb;simp only [Bool.and_eq_true, List.all_eq_true] at hb;have h1 := hb.2 b hbm;unfold z2i at h1;simp only [Bool.and_eq_true, decide_eq_true_eq] at h1;unfold limM at hl;simp only [Bool.and_eq_true, List.all_eq_true] at hl;have h2 := hl.1.2.2 b hbm;unfold limB at h2;exact ⟨h1.1, by simpa using h2⟩
end Go.Proofs.YtdmadnfadgggcaaGreatDoor
