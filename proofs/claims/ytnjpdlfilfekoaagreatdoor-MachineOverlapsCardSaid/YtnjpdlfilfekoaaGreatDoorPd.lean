import Derived.Test.YtnjpdlfilfekoaaGreatDoorGi
import Derived.Test.YtnjpdlfilfekoaaGreatDoorGn
import Derived.KernelRfl
import Derived.Test.YtnjpdlfilfekoaaGreatDoorPc
import Derived.Test.YtnjpdlfilfekoaaGreatDoorGk
namespace Go.Proofs.YtnjpdlfilfekoaaGreatDoor
open Go.RowKit
set_option linter.unusedVariables false
set_option linter.unusedSimpArgs false
set_option maxRecDepth 100000
def eqL : List UInt8 → List UInt8 → Bool
 | [], [] => true
 | a :: l, b :: m => Nat.beq a.toNat b.toNat && eqL l m
 | _, _ => false
theorem zh3 : ∀ (l m : List UInt8), eqL l m = true ↔ l = m
 | [], [] => by simp [eqL]
 | [], b :: m => by simp [eqL]
 | a :: l, [] => by simp [eqL]
 | a :: l, b :: m => by
   simp only [eqL, Bool.and_eq_true, zh3 l m, List.cons.injEq]
   constructor
   ·rintro ⟨h1, h2⟩; exact ⟨UInt8.toNat_inj.1 (Nat.eq_of_beq_eq_true h1), h2⟩
   ·rintro ⟨h1, h2⟩; subst h1; exact ⟨Nat.beq_refl _, h2⟩
def eqB (a b : ByteArray) : Bool := eqL a.data.toList b.data.toList
theorem z7a {a b : ByteArray} : eqB a b = true ↔ a = b := by
 unfold eqB
 rw [zh3]
 constructor
 ·intro h
  obtain ⟨⟨a⟩⟩ := a; obtain ⟨⟨b⟩⟩ := b
  simp only at h; rw [h]
 ·intro h; rw [h]
def zi7 (n : Nat) : Bool := (Nat.ble 97 n && Nat.ble n 122) || (Nat.ble 65 n && Nat.ble n 90)
def zny (n : Nat) : Bool := Nat.ble 48 n && Nat.ble n 57
def zjv : Bool → List UInt8 → Bool
 | _, [] => true
 | later, c :: l => (zi7 c.toNat || (later && (zny c.toNat || Nat.beq c.toNat 95))) && zjv true l
def zic (l : List UInt8) : Bool := Nat.ble 1 l.length && (Nat.ble l.length 24 && zjv false l)
theorem zlv {n : Nat} (h : zi7 n = true) : z1g n := by
 simp only [zi7, Bool.or_eq_true, Bool.and_eq_true] at h
 rcases h with ⟨h1, h2⟩ | ⟨h1, h2⟩
 ·exact .inl ⟨Nat.le_of_ble_eq_true h1, Nat.le_of_ble_eq_true h2⟩
 ·exact .inr ⟨Nat.le_of_ble_eq_true h1, Nat.le_of_ble_eq_true h2⟩
theorem znz {n : Nat} (h : zny n = true) : z2e n := by
 simp only [zny, Bool.and_eq_true] at h
 exact ⟨Nat.le_of_ble_eq_true h.1, Nat.le_of_ble_eq_true h.2⟩
theorem zph : ∀ (l : List UInt8) (later : Bool), zjv later l = true → ∀ (i : Nat) (c : UInt8), l[i]? = some c → z1g c.toNat ∨ ((i ≠ 0 ∨ later = true) ∧ (z2e c.toNat ∨ c.toNat = 95)) := by
 intro l
 induction l with
 | nil => intro later _ i c hc; simp at hc
 | cons x l ih =>
   intro later h i c hc
   simp only [zjv, Bool.and_eq_true] at h
   cases i with
   | zero =>
     simp at hc; subst hc
     have h1 := h.1
     simp only [Bool.or_eq_true, Bool.and_eq_true] at h1
     rcases h1 with h1 | ⟨h1, h2⟩
     ·exact .inl (zlv h1)
     ·exact .inr ⟨.inr h1, h2.imp znz Nat.eq_of_beq_eq_true⟩
   | succ i =>
     rcases ih true h.2 i c (by simpa using hc) with h1 | ⟨_, h2⟩
     ·exact .inl h1
     ·exact .inr ⟨.inl (by omega), h2⟩
theorem z8e {s : ByteArray} (h : zic s.data.toList = true) : z2i s = true := by
 simp only [zic, Bool.and_eq_true] at h
 have hs : s.data.toList.length = s.size := by rw [Array.length_toList]; rfl
 refine zff ⟨by rw [← hs]; exact Nat.le_of_ble_eq_true h.1, by rw [← hs]; exact Nat.le_of_ble_eq_true h.2.1, fun i c hc => ?_⟩
 rcases zph _ _ h.2.2 i c hc with h1 | ⟨h1, h2⟩
 ·exact .inl h1
 ·exact .inr ⟨h1.resolve_right (by simp), h2⟩
def z81 (met : List ByteArray) : List ByteArray → Bool
 | [] => true
 | s :: l => (!(met.any (eqB s)) && zic s.data.toList) && z81 (met ++ [s]) l
theorem z4s : ∀ (l met : List ByteArray), z81 met l = true → zr met l = true := by
 intro l
 induction l with
 | nil => intro met _; simp [zr]
 | cons s l ih =>
   intro met h
   simp only [z81, Bool.and_eq_true] at h
   have hn : ¬ s ∈ met := fun hm => by
    have : met.any (eqB s) = true := List.any_eq_true.2 ⟨s, hm, z7a.2 rfl⟩
    rw [this] at h; simp at h
   rw [z3s hn (z8e h.1.2)]
   exact ih _ h.2
def varL : List UInt8 → Bool
 | 114 :: 46 :: l => zic l
 | l => zic l
def varB (s : ByteArray) : Bool := varL s.data.toList
theorem zvr {s : ByteArray} (h : varB s = true) : varR s = true := by
 unfold varR z73
 obtain ⟨⟨l⟩⟩ := s
 have hx : ∀ a b, (ByteArray.mk ⟨l⟩).extract a b = ByteArray.mk ((l.drop a).take (b - a)).toArray := fun a b => ByteArray.extract_mk l a b
 simp only [hx, ByteArray.toList_mk]
 have hz : (ByteArray.mk ⟨l⟩).size = l.length := rfl
 rw [hz]
 replace h : varL l = true := h
 by_cases hc : 2 ≤ l.length ∧ (l.drop 0).take (2 - 0) = [114, 46]
 ·rw [if_pos hc]
  match l, hc with
  | a :: b :: r, ⟨_, h2⟩ =>
    simp at h2
    obtain ⟨rfl, rfl⟩ := h2
    refine z8e ?_
    unfold varL at h
    simpa using h
 ·rw [if_neg hc]
  refine z8e ?_
  show zic l = true
  unfold varL at h
  split at h
  ·exact absurd ⟨by simp, by simp⟩ hc
  ·exact h
def isNil (s : ByteArray) : Bool := match s.data.toList with | [] => true | _ => false
theorem zjs {s : ByteArray} (h : isNil s = true) : s.toList = [] := by
 rw [ByteArray.toList_eq]
 unfold isNil at h
 split at h
 ·assumption
 ·cases h
def zof (k : Nat) (w x y z lo : Int) (b : Nat) (s : ByteArray) : Bool :=
 if k = 1 then okW w b else if k = 2 then varB s else if k = 3 ∨ k = 4 then x == w else if k = 16 ∨ k = 17 ∨ k = 18 then w == 1 && x == y
 else if k = 19 then x == 1 && (y == w && z == w) else if k = 20 then wrap64 (x + y) == w else if k = 21 then decide (0 ≤ lo) && decide (lo ≤ wrap64 (x - w))
 else if k = 22 ∨ k = 23 then decide (x ≤ w) else if k = 24 then zpf w else x == w && y == w
theorem zog {k : Nat} {w x y z lo : Int} {b : Nat} {s : ByteArray} (h : zof k w x y z lo b s = true) : z9v k w x y z lo b s = true := by
 unfold z9v
 unfold zof at h
 by_cases h2 : k = 2
 ·subst h2
  simp only [show ¬ (2 : Nat) = 1 by decide, if_false, if_true] at h ⊢
  exact zvr h
 ·rw [if_neg h2] at h ⊢
  exact h
def zvp (t : Tm) : Bool := (t.bits == 0 || t.kind == 1) && ((isNil t.name || t.kind == 2) && (t.low == 0 || t.kind == 21))
theorem zth {t : Tm} (h : zvp t = true) : zj5 t = true := by
 simp only [zvp, Bool.and_eq_true] at h
 unfold zj5
 simp only [Bool.and_eq_true]
 refine ⟨⟨h.1, ?_⟩, h.2.2⟩
 have := h.2.1
 simp only [Bool.or_eq_true] at this ⊢
 exact this.imp (fun q => by rw [zjs q]; rfl) id
def zh8 (t : Tm) : Bool := decide (1 ≤ t.kind) && (decide (t.kind ≤ 24) && (okW t.width 0 && (t.sub.length == z4i t.kind && (zvp t && zof t.kind t.width (wdAt t.sub 0) (wdAt t.sub 1) (wdAt t.sub 2) t.low t.bits t.name))))
theorem zla {t : Tm} (h : zh8 t = true) : z1a t = true := by
 unfold zh8 at h
 unfold z1a zcw
 simp only [Bool.and_eq_true] at h ⊢
 exact ⟨h.1, h.2.1, h.2.2.1, h.2.2.2.1, zth h.2.2.2.2.1, zog h.2.2.2.2.2⟩
def z9x (K : ByteArray → Int) (address : Int) (t : Tm) : Bool :=
 zh8 t && ((if t.kind = 2 then decide (K t.name = t.width) else true) && (if t.kind = 24 then decide ((t.sub.headD default).width = address) else true))
theorem zfg {K : ByteArray → Int} {address : Int} {t : Tm} (h : z9x K address t = true) : z1a t = true := by
 unfold z9x at h
 simp only [Bool.and_eq_true] at h
 exact zla h.1
theorem z90 {K : ByteArray → Int} {address : Int} {t : Tm} (h : z9x K address t = true) (hk : t.kind = 2) : K t.name = t.width := by
 unfold z9x at h
 simp only [Bool.and_eq_true] at h
 have := h.2.1
 rw [if_pos hk] at this
 exact of_decide_eq_true this
theorem zmb {K : ByteArray → Int} {address : Int} {t : Tm} (h : z9x K address t = true) (hk : t.kind = 24) : (t.sub.headD default).width = address := by
 unfold z9x at h
 simp only [Bool.and_eq_true] at h
 have := h.2.2
 rw [if_pos hk] at this
 exact of_decide_eq_true this
mutual
def zmu (K : ByteArray → Int) (address : Int) : Tm → Bool
 | .mk k w b s lo l => z9x K address (.mk k w b s lo l) && zar K address l
def zar (K : ByteArray → Int) (address : Int) : List Tm → Bool
 | [] => true
 | t :: l => zmu K address t && zar K address l
end
mutual
theorem z9h (K : ByteArray → Int) (address : Int) (d : Nat) : ∀ t : Tm, zmu K address t = true → ∀ p ∈ t.pre d, z9x K address p.2 = true
 | .mk k w b s lo l, h, p, hp => by
   simp only [zmu, Bool.and_eq_true] at h
   simp only [Tm.pre] at hp
   cases hp with
   | head => exact h.1
   | tail _ hp => exact z83 K address (d + 1) l h.2 p hp
theorem z83 (K : ByteArray → Int) (address : Int) (d : Nat) : ∀ l : List Tm, zar K address l = true → ∀ p ∈ Tm.pres d l, z9x K address p.2 = true
 | [], _, p, hp => by simp only [Tm.pres] at hp; cases hp
 | t :: l, h, p, hp => by
   simp only [zar, Bool.and_eq_true] at h
   simp only [Tm.pres, List.mem_append] at hp
   exact hp.elim (z9h K address d t h.1 p) (z83 K address d l h.2 p)
end
mutual
theorem z9g (K : ByteArray → Int) (address : Int) : ∀ t : Tm, zmu K address t = true → z29 K address t = true
 | .mk k w b s lo l, h => by
   simp only [zmu, Bool.and_eq_true] at h
   obtain ⟨h1, h2⟩ := h
   rw [z29]
   by_cases hk : k = 2
   ·rw [if_pos hk]
    exact decide_eq_true (z90 h1 hk)
   ·rw [if_neg hk, if_neg]
    ·exact z82 K address l h2
    ·rintro ⟨h3, h4⟩
     exact h4 (zmb h1 h3)
theorem z82 (K : ByteArray → Int) (address : Int) : ∀ l : List Tm, zar K address l = true → z3c K address l = true
 | [], _ => by simp [z3c]
 | t :: l, h => by
   simp only [zar, Bool.and_eq_true] at h
   simp only [z3c, z9g K address t h.1, z82 K address l h.2, Bool.and_self]
end
def zcv (K : ByteArray → Int) (address : Int) (t : Tm) : Bool := Nat.ble t.sz 400 && (Nat.ble t.dp 60 && zmu K address t)
theorem z57 {K : ByteArray → Int} {address : Int} {t : Tm} (h : zcv K address t = true) : z24 K address t = true := by
 simp only [zcv, Bool.and_eq_true] at h
 obtain ⟨h1, h2, h3⟩ := h
 unfold z24
 rw [Bool.and_eq_true, decide_eq_true_eq]
 have hn : ∀ u ∈ t.nodes, z9x K address u = true := fun u hu => by
  unfold Tm.nodes at hu
  obtain ⟨p, hp, rfl⟩ := List.mem_map.1 hu
  exact z9h K address 1 t h3 p hp
 refine ⟨(z62 t).2 ⟨Nat.le_of_ble_eq_true h1, Nat.le_of_ble_eq_true h2, fun u hu => zfg (hn u hu), fun u hu v hv ku kv he => ?_⟩, z9g K address t h3⟩
 rw [← z90 (hn u hu) ku, ← z90 (hn v hv) kv, he]
def zr4 (t : Tm) : Bool := Nat.beq t.kind 0 && (decide (t.width = 0) && (Nat.beq t.bits 0 && (isNil t.name && (decide (t.low = 0) && Nat.beq t.sub.length 0))))
theorem zc0 {t : Tm} (h : zr4 t = true) : z9m t = true := by
 simp only [zr4, Bool.and_eq_true] at h
 obtain ⟨h1, h2, h3, h4, h5, h6⟩ := h
 unfold z9m
 rw [zjs h4, Nat.eq_of_beq_eq_true h1, Nat.eq_of_beq_eq_true h3, Nat.eq_of_beq_eq_true h6, of_decide_eq_true h2, of_decide_eq_true h5]
 rfl
def zqw (f : MEff) : Bool :=
 (decide (f.kind = 1) || decide (f.oper = 0)) && ((decide (f.kind = 1) && decide (f.oper = -1) || decide (f.reg = 0)) && ((decide (f.kind = 2) || zr4 f.addr) && (decide (f.kind = 3) || zr4 f.cond)))
theorem zqx {f : MEff} (h : zqw f = true) : zg0 f = true := by
 unfold zqw at h
 unfold zg0
 rw [Bool.and_eq_true, Bool.and_eq_true, Bool.and_eq_true] at h ⊢
 refine ⟨h.1, h.2.1, ?_, ?_⟩
 ·have := h.2.2.1
  rw [Bool.or_eq_true] at this ⊢
  exact this.imp id zc0
 ·have := h.2.2.2
  rw [Bool.or_eq_true] at this ⊢
  exact this.imp id zc0
def zb2 (K : ByteArray → Int) (address : Int) (R : List MReg) (L : List MBank) (ops : List MOper) (f : MEff) : Bool :=
 if f.kind = 1 then zcv K address f.value && decide (f.value.width = z4y address R L ops f)
 else if f.kind = 2 then zcv K address f.addr && (decide (f.addr.width = address) && (zcv K address f.value && z9d f.value.width))
 else if f.kind = 3 then zcv K address f.value && (decide (f.value.width = address) && (zr4 f.cond || (zcv K address f.cond && decide (f.cond.width = 1))))
 else if f.kind = 4 then zcv K address f.value
 else false
theorem zh0 {K : ByteArray → Int} {address : Int} {R : List MReg} {L : List MBank} {ops : List MOper} {f : MEff} (h : zb2 K address R L ops f = true) : z2v K address R L ops f = true := by
 unfold zb2 at h
 unfold z2v
 split at h
 ·rename_i hk
  rw [if_pos hk]
  rw [Bool.and_eq_true] at h ⊢
  exact ⟨z57 h.1, h.2⟩
 ·rename_i hk
  rw [if_neg hk]
  split at h
  ·rename_i hk
   rw [if_pos hk]
   rw [Bool.and_eq_true, Bool.and_eq_true, Bool.and_eq_true] at h ⊢
   exact ⟨z57 h.1, h.2.1, z57 h.2.2.1, h.2.2.2⟩
  ·rename_i hk
   rw [if_neg hk]
   split at h
   ·rename_i hk
    rw [if_pos hk]
    rw [Bool.and_eq_true, Bool.and_eq_true] at h ⊢
    refine ⟨z57 h.1, h.2.1, ?_⟩
    have := h.2.2
    rw [Bool.or_eq_true, Bool.and_eq_true] at this ⊢
    exact this.imp zc0 fun q => ⟨z57 q.1, q.2⟩
   ·rename_i hk
    rw [if_neg hk]
    split at h
    ·rename_i hk
     rw [if_pos hk]
     exact z57 h
    ·cases h
def z8f (word address : Int) (L : List MBank) : List MOper → Nat → List MOper → Bool
 | _, _, [] => true
 | others, taken, o :: l => (!(eqB o.name z1l) && z4h address L others o) && ((z1u word taken o.pieces).1 && z8f word address L (others ++ [o]) (z1u word taken o.pieces).2 l)
theorem zir {word address : Int} {L : List MBank} : ∀ (l others : List MOper) (taken : Nat), z8f word address L others taken l = true → z1t word address L others taken l = true := by
 intro l
 induction l with
 | nil => intro others taken _; simp [z1t]
 | cons o l ih =>
   intro others taken h
   simp only [z8f, Bool.and_eq_true] at h
   simp only [z1t, Bool.and_eq_true]
   refine ⟨⟨?_, h.1.2⟩, h.2.1, ih _ _ h.2.2⟩
   have h1 := h.1.1
   rw [decide_eq_true_eq]
   intro he
   rw [he, z7a.2 rfl] at h1
   cases h1
def z88 : List (ByteArray × Int) → ByteArray → Int
 | [], _ => 0
 | p :: l, x => if eqB x p.1 then p.2 else z88 l x
theorem zbp (l : List (ByteArray × Int)) (s : ByteArray) (z : Int) : putK (z88 l) s z = z88 ((s, z) :: l) := by
 funext x
 unfold putK
 rw [z88]
 by_cases h : x = s
 ·rw [if_pos h, if_pos (z7a.2 h)]
 ·rw [if_neg h, if_neg (fun q => h (z7a.1 q))]
def zwt (address : Int) (R : List MReg) (L : List MBank) (l : List (ByteArray × Int)) (ops : List MOper) : List (ByteArray × Int) := ops.foldl (fun l o => (o.name, z1o address R L o) :: l) l
theorem zt0 (address : Int) (R : List MReg) (L : List MBank) : ∀ (ops : List MOper) (l : List (ByteArray × Int)), z3a address R L (z88 l) ops = z88 (zwt address R L l ops) := by
 intro ops
 induction ops with
 | nil => intro l; rfl
 | cons o ops ih =>
   intro l
   show z3a address R L (putK (z88 l) o.name (z1o address R L o)) ops = _
   rw [zbp]
   exact ih _
def zr9 (m : Mach) : List (ByteArray × Int) := m.regs.foldl (fun l r => (rDot r.name, r.width) :: l) [(z1l, m.address)]
theorem zra (m : Mach) : z5w m = z88 (zr9 m) := by
 have key : ∀ (R : List MReg) (l : List (ByteArray × Int)), R.foldl (fun K r => putK K (rDot r.name) r.width) (z88 l) = z88 (R.foldl (fun l r => (rDot r.name, r.width) :: l) l) := by
  intro R
  induction R with
  | nil => intro l; rfl
  | cons r R ih =>
    intro l
    show R.foldl _ (putK (z88 l) (rDot r.name) r.width) = _
    rw [zbp]
    exact ih _
 unfold z5w zr9
 rw [← key, ← zbp]
 rfl
noncomputable def insB (m : Mach) (base : List (ByteArray × Int)) (i : MIns) : Bool :=
 (z59 m.word m.units.length i && (z81 [] (i.opers.map fun x => x.name) && z8f m.word m.address m.banks [] i.mask i.opers)) && i.effs.all fun f => zb2 (z88 (zwt m.address m.regs m.banks base i.opers)) m.address m.regs m.banks i.opers f && zqw f
theorem zv3 {m : Mach} {i : MIns} (h : insB m (zr9 m) i = true) : insR m (z5w m) i = true := by
 unfold insB at h
 unfold insR z5o
 simp only [Bool.and_eq_true] at h ⊢
 refine ⟨⟨h.1.1, z4s _ _ h.1.2.1, zir _ _ _ h.1.2.2⟩, ?_⟩
 rw [List.all_eq_true]
 intro f hf
 have h3 := List.all_eq_true.1 h.2 f hf
 rw [Bool.and_eq_true] at h3
 unfold effR
 rw [Bool.and_eq_true, zra, zt0]
 exact ⟨zh0 h3.1, zqx h3.2⟩
noncomputable def zub (m : Mach) : Bool :=
 limM m && ((zic m.name.data.toList && (decide (1 ≤ m.word ∧ m.word ≤ 4) && decide (m.address = 16 ∨ m.address = 32))) &&
  (((decide (0 < m.regs.length) && z81 [] (m.regs.map fun x => x.name)) && m.regs.all (z98 m.regs)) &&
  ((z81 [] (m.banks.map fun x => x.name) && m.banks.all (z4f m.regs)) &&
  (((decide (0 < m.units.length) && z81 [] (m.units.map fun x => x.name)) && m.units.all zas) &&
  (z81 [] (m.instrs.map fun x => x.name) && m.instrs.all (insB m (zr9 m)))))))
theorem zg4 {m : Mach} (h : zub m = true) : chkR m = 0 := by
 unfold zub at h
 simp only [Bool.and_eq_true] at h
 obtain ⟨h0, ⟨h1, h1'⟩, ⟨⟨h2, h2'⟩, h2''⟩, ⟨h3, h3'⟩, ⟨⟨h4, h4'⟩, h4''⟩, h5, h5'⟩ := h
 unfold chkR
 rw [if_pos h0, if_pos]
 unfold z1x z5g z5h z3k z4x z3j
 simp only [Bool.and_eq_true]
 refine ⟨⟨z8e h1, h1'⟩, ⟨⟨h2, z4s _ _ h2'⟩, h2''⟩, ⟨z4s _ _ h3, h3'⟩, ⟨⟨h4, z4s _ _ h4'⟩, h4''⟩, z4s _ _ h5, ?_⟩
 rw [List.all_eq_true] at h5' ⊢
 exact fun i hi => zv3 (h5' i hi)
end Go.Proofs.YtnjpdlfilfekoaaGreatDoor
namespace Go.Proofs.YtnjpdlfilfekoaaGreatDoor
open Go.RowKit
set_option linter.unusedVariables false
set_option maxRecDepth 1000000
theorem zlf : decR (Play.start Tryz.prog [] 10000000 27 ([Value.int .i64 0].map .lit) (.mk .e .nil)) = some given0 := by kernel_rfl
theorem zlg : decR (Play.start Tryz.prog [] 10000000 27 ([Value.int .i64 1].map .lit) (.mk .e .nil)) = some given1 := by kernel_rfl
theorem zlc (w : World) : Calls Tryz.prog 27 #[.int .i64 0] w fun e w' => ∃ x : Value, e = .returned x ∧ zv w' x given0 ∧ Below w.heap.size w w' := zfl zlf w
theorem z58 (w : World) : Calls Tryz.prog 27 #[.int .i64 1] w fun e w' => ∃ x : Value, e = .returned x ∧ zv w' x given1 ∧ Below w.heap.size w w' := zfl zlg w
theorem valid0 : chkR given0 = 0 := zg4 (by kernel_rfl)
theorem valid1 : chkR given1 = 0 := zg4 (by kernel_rfl)
def zqy (t : Tm) : Bool := !t.long && Nat.ble t.dp 9000
def zo4 (m : Mach) : Bool := m.instrs.all fun x => x.effs.all fun f => zqy f.addr && (zqy f.value && zqy f.cond)
theorem zbx {t : Tm} (h : zqy t = true) : TmOk t := by
 simp only [zqy, Bool.and_eq_true, Bool.not_eq_true'] at h
 exact ⟨h.1, Nat.le_of_ble_eq_true h.2⟩
theorem za7 {m : Mach} (h : zo4 m = true) : ∀ x ∈ m.instrs, ∀ f ∈ x.effs, z38 f := by
 intro x hx f hf
 unfold zo4 at h
 have h1 := List.all_eq_true.1 (List.all_eq_true.1 h x hx) f hf
 simp only [Bool.and_eq_true] at h1
 exact ⟨zbx h1.1, zbx h1.2.1, zbx h1.2.2⟩
theorem effs0 : ∀ x ∈ given0.instrs, ∀ f ∈ x.effs, z38 f := za7 (by kernel_rfl)
theorem effs1 : ∀ x ∈ given1.instrs, ∀ f ∈ x.effs, z38 f := za7 (by kernel_rfl)
end Go.Proofs.YtnjpdlfilfekoaaGreatDoor
