import Derived.Test.YtjjfeddenhemhaaGreatDoorGi
import Derived.Test.YtjjfeddenhemhaaGreatDoorGn
import Derived.KernelRfl
import Derived.Test.YtjjfeddenhemhaaGreatDoorPc
import Derived.Test.YtjjfeddenhemhaaGreatDoorGk
namespace Go.Proofs.YtjjfeddenhemhaaGreatDoor
open Go.RowKit
set_option linter.unusedVariables false
set_option linter.unusedSimpArgs false
set_option maxRecDepth 100000
def eqL : List UInt8 → List UInt8 → Bool
 | [], [] => true
 | a :: l, b :: m => Nat.beq a.toNat b.toNat && eqL l m
 | _, _ => false
theorem zhb : ∀ (l m : List UInt8), eqL l m = true ↔ l = m
 | [], [] => by simp [eqL]
 | [], b :: m => by simp [eqL]
 | a :: l, [] => by simp [eqL]
 | a :: l, b :: m => by
   simp only [eqL, Bool.and_eq_true, zhb l m, List.cons.injEq]
   constructor
   ·rintro ⟨h1, h2⟩; exact ⟨UInt8.toNat_inj.1 (Nat.eq_of_beq_eq_true h1), h2⟩
   ·rintro ⟨h1, h2⟩; subst h1; exact ⟨Nat.beq_refl _, h2⟩
def eqB (a b : ByteArray) : Bool := eqL a.data.toList b.data.toList
theorem z7l {a b : ByteArray} : eqB a b = true ↔ a = b := by
 unfold eqB
 rw [zhb]
 constructor
 ·intro h
  obtain ⟨⟨a⟩⟩ := a; obtain ⟨⟨b⟩⟩ := b
  simp only at h; rw [h]
 ·intro h; rw [h]
def zif (n : Nat) : Bool := (Nat.ble 97 n && Nat.ble n 122) || (Nat.ble 65 n && Nat.ble n 90)
def zo8 (n : Nat) : Bool := Nat.ble 48 n && Nat.ble n 57
def zk5 : Bool → List UInt8 → Bool
 | _, [] => true
 | later, c :: l => (zif c.toNat || (later && (zo8 c.toNat || Nat.beq c.toNat 95))) && zk5 true l
def zik (l : List UInt8) : Bool := Nat.ble 1 l.length && (Nat.ble l.length 24 && zk5 false l)
theorem zm4 {n : Nat} (h : zif n = true) : z1j n := by
 simp only [zif, Bool.or_eq_true, Bool.and_eq_true] at h
 rcases h with ⟨h1, h2⟩ | ⟨h1, h2⟩
 ·exact .inl ⟨Nat.le_of_ble_eq_true h1, Nat.le_of_ble_eq_true h2⟩
 ·exact .inr ⟨Nat.le_of_ble_eq_true h1, Nat.le_of_ble_eq_true h2⟩
theorem zo9 {n : Nat} (h : zo8 n = true) : z2j n := by
 simp only [zo8, Bool.and_eq_true] at h
 exact ⟨Nat.le_of_ble_eq_true h.1, Nat.le_of_ble_eq_true h.2⟩
theorem zpr : ∀ (l : List UInt8) (later : Bool), zk5 later l = true → ∀ (i : Nat) (c : UInt8), l[i]? = some c → z1j c.toNat ∨ ((i ≠ 0 ∨ later = true) ∧ (z2j c.toNat ∨ c.toNat = 95)) := by
 intro l
 induction l with
 | nil => intro later _ i c hc; simp at hc
 | cons x l ih =>
   intro later h i c hc
   simp only [zk5, Bool.and_eq_true] at h
   cases i with
   | zero =>
     simp at hc; subst hc
     have h1 := h.1
     simp only [Bool.or_eq_true, Bool.and_eq_true] at h1
     rcases h1 with h1 | ⟨h1, h2⟩
     ·exact .inl (zm4 h1)
     ·exact .inr ⟨.inr h1, h2.imp zo9 Nat.eq_of_beq_eq_true⟩
   | succ i =>
     rcases ih true h.2 i c (by simpa using hc) with h1 | ⟨_, h2⟩
     ·exact .inl h1
     ·exact .inr ⟨.inl (by omega), h2⟩
theorem z8s {s : ByteArray} (h : zik s.data.toList = true) : z2n s = true := by
 simp only [zik, Bool.and_eq_true] at h
 have hs : s.data.toList.length = s.size := by rw [Array.length_toList]; rfl
 refine zfr ⟨by rw [← hs]; exact Nat.le_of_ble_eq_true h.1, by rw [← hs]; exact Nat.le_of_ble_eq_true h.2.1, fun i c hc => ?_⟩
 rcases zpr _ _ h.2.2 i c hc with h1 | ⟨h1, h2⟩
 ·exact .inl h1
 ·exact .inr ⟨h1.resolve_right (by simp), h2⟩
def z8f (met : List ByteArray) : List ByteArray → Bool
 | [] => true
 | s :: l => (!(met.any (eqB s)) && zik s.data.toList) && z8f (met ++ [s]) l
theorem z4z : ∀ (l met : List ByteArray), z8f met l = true → zr met l = true := by
 intro l
 induction l with
 | nil => intro met _; simp [zr]
 | cons s l ih =>
   intro met h
   simp only [z8f, Bool.and_eq_true] at h
   have hn : ¬ s ∈ met := fun hm => by
    have : met.any (eqB s) = true := List.any_eq_true.2 ⟨s, hm, z7l.2 rfl⟩
    rw [this] at h; simp at h
   rw [z3z hn (z8s h.1.2)]
   exact ih _ h.2
def varL : List UInt8 → Bool
 | 114 :: 46 :: l => zik l
 | l => zik l
def varB (s : ByteArray) : Bool := varL s.data.toList
theorem zw2 {s : ByteArray} (h : varB s = true) : varR s = true := by
 unfold varR z7d
 obtain ⟨⟨l⟩⟩ := s
 have hx : ∀ a b, (ByteArray.mk ⟨l⟩).extract a b = ByteArray.mk ((l.drop a).take (b - a)).toArray := fun a b => ByteArray.extract_mk l a b
 simp only [hx, ByteArray.toList_mk]
 have hz : (ByteArray.mk ⟨l⟩).size = l.length := rfl
 rw [hz]
 replace h : varL l = true := h
 by_cases hc : 2 ≤ l.length ∧ (l.drop 0).take (2 - 0) = [114, 46]
 ·rw [if_pos hc]
  match l, hc with
  | a :: b :: r, ⟨_, h2⟩ =>
    simp at h2
    obtain ⟨rfl, rfl⟩ := h2
    refine z8s ?_
    unfold varL at h
    simpa using h
 ·rw [if_neg hc]
  refine z8s ?_
  show zik l = true
  unfold varL at h
  split at h
  ·exact absurd ⟨by simp, by simp⟩ hc
  ·exact h
def isNil (s : ByteArray) : Bool := match s.data.toList with | [] => true | _ => false
theorem zk2 {s : ByteArray} (h : isNil s = true) : s.toList = [] := by
 rw [ByteArray.toList_eq]
 unfold isNil at h
 split at h
 ·assumption
 ·cases h
def zoo (k : Nat) (w x y z lo : Int) (b : Nat) (s : ByteArray) : Bool :=
 if k = 1 then okW w b else if k = 2 then varB s else if k = 3 ∨ k = 4 then x == w else if k = 16 ∨ k = 17 ∨ k = 18 then w == 1 && x == y
 else if k = 19 then x == 1 && (y == w && z == w) else if k = 20 then wrap64 (x + y) == w else if k = 21 then decide (0 ≤ lo) && decide (lo ≤ wrap64 (x - w))
 else if k = 22 ∨ k = 23 then decide (x ≤ w) else if k = 24 then zpp w else x == w && y == w
theorem zop {k : Nat} {w x y z lo : Int} {b : Nat} {s : ByteArray} (h : zoo k w x y z lo b s = true) : za8 k w x y z lo b s = true := by
 unfold za8
 unfold zoo at h
 by_cases h2 : k = 2
 ·subst h2
  simp only [show ¬ (2 : Nat) = 1 by decide, if_false, if_true] at h ⊢
  exact zw2 h
 ·rw [if_neg h2] at h ⊢
  exact h
def zw0 (t : Tm) : Bool := (t.bits == 0 || t.kind == 1) && ((isNil t.name || t.kind == 2) && (t.low == 0 || t.kind == 21))
theorem ztp {t : Tm} (h : zw0 t = true) : zje t = true := by
 simp only [zw0, Bool.and_eq_true] at h
 unfold zje
 simp only [Bool.and_eq_true]
 refine ⟨⟨h.1, ?_⟩, h.2.2⟩
 have := h.2.1
 simp only [Bool.or_eq_true] at this ⊢
 exact this.imp (fun q => by rw [zk2 q]; rfl) id
def zhg (t : Tm) : Bool := decide (1 ≤ t.kind) && (decide (t.kind ≤ 24) && (okW t.width 0 && (t.sub.length == z4p t.kind && (zw0 t && zoo t.kind t.width (wdAt t.sub 0) (wdAt t.sub 1) (wdAt t.sub 2) t.low t.bits t.name))))
theorem zll {t : Tm} (h : zhg t = true) : z1b t = true := by
 unfold zhg at h
 unfold z1b zd8
 simp only [Bool.and_eq_true] at h ⊢
 exact ⟨h.1, h.2.1, h.2.2.1, h.2.2.2.1, ztp h.2.2.2.2.1, zop h.2.2.2.2.2⟩
def zaa (K : ByteArray → Int) (address : Int) (t : Tm) : Bool :=
 zhg t && ((if t.kind = 2 then decide (K t.name = t.width) else true) && (if t.kind = 24 then decide ((t.sub.headD default).width = address) else true))
theorem zfs {K : ByteArray → Int} {address : Int} {t : Tm} (h : zaa K address t = true) : z1b t = true := by
 unfold zaa at h
 simp only [Bool.and_eq_true] at h
 exact zll h.1
theorem z9f {K : ByteArray → Int} {address : Int} {t : Tm} (h : zaa K address t = true) (hk : t.kind = 2) : K t.name = t.width := by
 unfold zaa at h
 simp only [Bool.and_eq_true] at h
 have := h.2.1
 rw [if_pos hk] at this
 exact of_decide_eq_true this
theorem zmk {K : ByteArray → Int} {address : Int} {t : Tm} (h : zaa K address t = true) (hk : t.kind = 24) : (t.sub.headD default).width = address := by
 unfold zaa at h
 simp only [Bool.and_eq_true] at h
 have := h.2.2
 rw [if_pos hk] at this
 exact of_decide_eq_true this
mutual
def zn2 (K : ByteArray → Int) (address : Int) : Tm → Bool
 | .mk k w b s lo l => zaa K address (.mk k w b s lo l) && zb5 K address l
def zb5 (K : ByteArray → Int) (address : Int) : List Tm → Bool
 | [] => true
 | t :: l => zn2 K address t && zb5 K address l
end
mutual
theorem z9v (K : ByteArray → Int) (address : Int) (d : Nat) : ∀ t : Tm, zn2 K address t = true → ∀ p ∈ t.pre d, zaa K address p.2 = true
 | .mk k w b s lo l, h, p, hp => by
   simp only [zn2, Bool.and_eq_true] at h
   simp only [Tm.pre] at hp
   cases hp with
   | head => exact h.1
   | tail _ hp => exact z8h K address (d + 1) l h.2 p hp
theorem z8h (K : ByteArray → Int) (address : Int) (d : Nat) : ∀ l : List Tm, zb5 K address l = true → ∀ p ∈ Tm.pres d l, zaa K address p.2 = true
 | [], _, p, hp => by simp only [Tm.pres] at hp; cases hp
 | t :: l, h, p, hp => by
   simp only [zb5, Bool.and_eq_true] at h
   simp only [Tm.pres, List.mem_append] at hp
   exact hp.elim (z9v K address d t h.1 p) (z8h K address d l h.2 p)
end
mutual
theorem z9u (K : ByteArray → Int) (address : Int) : ∀ t : Tm, zn2 K address t = true → z2c K address t = true
 | .mk k w b s lo l, h => by
   simp only [zn2, Bool.and_eq_true] at h
   obtain ⟨h1, h2⟩ := h
   rw [z2c]
   by_cases hk : k = 2
   ·rw [if_pos hk]
    exact decide_eq_true (z9f h1 hk)
   ·rw [if_neg hk, if_neg]
    ·exact z8g K address l h2
    ·rintro ⟨h3, h4⟩
     exact h4 (zmk h1 h3)
theorem z8g (K : ByteArray → Int) (address : Int) : ∀ l : List Tm, zb5 K address l = true → z3j K address l = true
 | [], _ => by simp [z3j]
 | t :: l, h => by
   simp only [zb5, Bool.and_eq_true] at h
   simp only [z3j, z9u K address t h.1, z8g K address l h.2, Bool.and_self]
end
def zd7 (K : ByteArray → Int) (address : Int) (t : Tm) : Bool := Nat.ble t.sz 400 && (Nat.ble t.dp 60 && zn2 K address t)
theorem z5e {K : ByteArray → Int} {address : Int} {t : Tm} (h : zd7 K address t = true) : z26 K address t = true := by
 simp only [zd7, Bool.and_eq_true] at h
 obtain ⟨h1, h2, h3⟩ := h
 unfold z26
 rw [Bool.and_eq_true, decide_eq_true_eq]
 have hn : ∀ u ∈ t.nodes, zaa K address u = true := fun u hu => by
  unfold Tm.nodes at hu
  obtain ⟨p, hp, rfl⟩ := List.mem_map.1 hu
  exact z9v K address 1 t h3 p hp
 refine ⟨(z6c t).2 ⟨Nat.le_of_ble_eq_true h1, Nat.le_of_ble_eq_true h2, fun u hu => zfs (hn u hu), fun u hu v hv ku kv he => ?_⟩, z9u K address t h3⟩
 rw [← z9f (hn u hu) ku, ← z9f (hn v hv) kv, he]
def zrf (t : Tm) : Bool := Nat.beq t.kind 0 && (decide (t.width = 0) && (Nat.beq t.bits 0 && (isNil t.name && (decide (t.low = 0) && Nat.beq t.sub.length 0))))
theorem zcc {t : Tm} (h : zrf t = true) : z9z t = true := by
 simp only [zrf, Bool.and_eq_true] at h
 obtain ⟨h1, h2, h3, h4, h5, h6⟩ := h
 unfold z9z
 rw [zk2 h4, Nat.eq_of_beq_eq_true h1, Nat.eq_of_beq_eq_true h3, Nat.eq_of_beq_eq_true h6, of_decide_eq_true h2, of_decide_eq_true h5]
 rfl
def zr6 (f : MEff) : Bool :=
 (decide (f.kind = 1) || decide (f.oper = 0)) && ((decide (f.kind = 1) && decide (f.oper = -1) || decide (f.reg = 0)) && ((decide (f.kind = 2) || zrf f.addr) && (decide (f.kind = 3) || zrf f.cond)))
theorem zr7 {f : MEff} (h : zr6 f = true) : zgd f = true := by
 unfold zr6 at h
 unfold zgd
 rw [Bool.and_eq_true, Bool.and_eq_true, Bool.and_eq_true] at h ⊢
 refine ⟨h.1, h.2.1, ?_, ?_⟩
 ·have := h.2.2.1
  rw [Bool.or_eq_true] at this ⊢
  exact this.imp id zcc
 ·have := h.2.2.2
  rw [Bool.or_eq_true] at this ⊢
  exact this.imp id zcc
def zbg (K : ByteArray → Int) (address : Int) (R : List MReg) (L : List MBank) (ops : List MOper) (f : MEff) : Bool :=
 if f.kind = 1 then zd7 K address f.value && decide (f.value.width = z55 address R L ops f)
 else if f.kind = 2 then zd7 K address f.addr && (decide (f.addr.width = address) && (zd7 K address f.value && z9r f.value.width))
 else if f.kind = 3 then zd7 K address f.value && (decide (f.value.width = address) && (zrf f.cond || (zd7 K address f.cond && decide (f.cond.width = 1))))
 else if f.kind = 4 then zd7 K address f.value
 else false
theorem zh9 {K : ByteArray → Int} {address : Int} {R : List MReg} {L : List MBank} {ops : List MOper} {f : MEff} (h : zbg K address R L ops f = true) : z30 K address R L ops f = true := by
 unfold zbg at h
 unfold z30
 split at h
 ·rename_i hk
  rw [if_pos hk]
  rw [Bool.and_eq_true] at h ⊢
  exact ⟨z5e h.1, h.2⟩
 ·rename_i hk
  rw [if_neg hk]
  split at h
  ·rename_i hk
   rw [if_pos hk]
   rw [Bool.and_eq_true, Bool.and_eq_true, Bool.and_eq_true] at h ⊢
   exact ⟨z5e h.1, h.2.1, z5e h.2.2.1, h.2.2.2⟩
  ·rename_i hk
   rw [if_neg hk]
   split at h
   ·rename_i hk
    rw [if_pos hk]
    rw [Bool.and_eq_true, Bool.and_eq_true] at h ⊢
    refine ⟨z5e h.1, h.2.1, ?_⟩
    have := h.2.2
    rw [Bool.or_eq_true, Bool.and_eq_true] at this ⊢
    exact this.imp zcc fun q => ⟨z5e q.1, q.2⟩
   ·rename_i hk
    rw [if_neg hk]
    split at h
    ·rename_i hk
     rw [if_pos hk]
     exact z5e h
    ·cases h
def z8t (word address : Int) (L : List MBank) : List MOper → Nat → List MOper → Bool
 | _, _, [] => true
 | others, taken, o :: l => (!(eqB o.name z1n) && z4o address L others o) && ((z1v word taken o.pieces).1 && z8t word address L (others ++ [o]) (z1v word taken o.pieces).2 l)
theorem ziz {word address : Int} {L : List MBank} : ∀ (l others : List MOper) (taken : Nat), z8t word address L others taken l = true → z1u word address L others taken l = true := by
 intro l
 induction l with
 | nil => intro others taken _; simp [z1u]
 | cons o l ih =>
   intro others taken h
   simp only [z8t, Bool.and_eq_true] at h
   simp only [z1u, Bool.and_eq_true]
   refine ⟨⟨?_, h.1.2⟩, h.2.1, ih _ _ h.2.2⟩
   have h1 := h.1.1
   rw [decide_eq_true_eq]
   intro he
   rw [he, z7l.2 rfl] at h1
   cases h1
def z8n : List (ByteArray × Int) → ByteArray → Int
 | [], _ => 0
 | p :: l, x => if eqB x p.1 then p.2 else z8n l x
theorem zc2 (l : List (ByteArray × Int)) (s : ByteArray) (z : Int) : putK (z8n l) s z = z8n ((s, z) :: l) := by
 funext x
 unfold putK
 rw [z8n]
 by_cases h : x = s
 ·rw [if_pos h, if_pos (z7l.2 h)]
 ·rw [if_neg h, if_neg (fun q => h (z7l.1 q))]
def zx7 (address : Int) (R : List MReg) (L : List MBank) (l : List (ByteArray × Int)) (ops : List MOper) : List (ByteArray × Int) := ops.foldl (fun l o => (o.name, z1q address R L o) :: l) l
theorem zt9 (address : Int) (R : List MReg) (L : List MBank) : ∀ (ops : List MOper) (l : List (ByteArray × Int)), z3h address R L (z8n l) ops = z8n (zx7 address R L l ops) := by
 intro ops
 induction ops with
 | nil => intro l; rfl
 | cons o ops ih =>
   intro l
   show z3h address R L (putK (z8n l) o.name (z1q address R L o)) ops = _
   rw [zc2]
   exact ih _
def zrk (m : Mach) : List (ByteArray × Int) := m.regs.foldl (fun l r => (rDot r.name, r.width) :: l) [(z1n, m.address)]
theorem zrl (m : Mach) : z66 m = z8n (zrk m) := by
 have key : ∀ (R : List MReg) (l : List (ByteArray × Int)), R.foldl (fun K r => putK K (rDot r.name) r.width) (z8n l) = z8n (R.foldl (fun l r => (rDot r.name, r.width) :: l) l) := by
  intro R
  induction R with
  | nil => intro l; rfl
  | cons r R ih =>
    intro l
    show R.foldl _ (putK (z8n l) (rDot r.name) r.width) = _
    rw [zc2]
    exact ih _
 unfold z66 zrk
 rw [← key, ← zc2]
 rfl
noncomputable def insB (m : Mach) (base : List (ByteArray × Int)) (i : MIns) : Bool :=
 (z5g m.word m.units.length i && (z8f [] (i.opers.map fun x => x.name) && z8t m.word m.address m.banks [] i.mask i.opers)) && i.effs.all fun f => zbg (z8n (zx7 m.address m.regs m.banks base i.opers)) m.address m.regs m.banks i.opers f && zr6 f
theorem zvf {m : Mach} {i : MIns} (h : insB m (zrk m) i = true) : insR m (z66 m) i = true := by
 unfold insB at h
 unfold insR z5w
 simp only [Bool.and_eq_true] at h ⊢
 refine ⟨⟨h.1.1, z4z _ _ h.1.2.1, ziz _ _ _ h.1.2.2⟩, ?_⟩
 rw [List.all_eq_true]
 intro f hf
 have h3 := List.all_eq_true.1 h.2 f hf
 rw [Bool.and_eq_true] at h3
 unfold effR
 rw [Bool.and_eq_true, zrl, zt9]
 exact ⟨zh9 h3.1, zr7 h3.2⟩
noncomputable def zum (m : Mach) : Bool :=
 limM m && ((zik m.name.data.toList && (decide (1 ≤ m.word ∧ m.word ≤ 4) && decide (m.address = 16 ∨ m.address = 32))) &&
  (((decide (0 < m.regs.length) && z8f [] (m.regs.map fun x => x.name)) && m.regs.all (z9m m.regs)) &&
  ((z8f [] (m.banks.map fun x => x.name) && m.banks.all (z4m m.regs)) &&
  (((decide (0 < m.units.length) && z8f [] (m.units.map fun x => x.name)) && m.units.all zb6) &&
  (z8f [] (m.instrs.map fun x => x.name) && m.instrs.all (insB m (zrk m)))))))
theorem zgh {m : Mach} (h : zum m = true) : chkR m = 0 := by
 unfold zum at h
 simp only [Bool.and_eq_true] at h
 obtain ⟨h0, ⟨h1, h1'⟩, ⟨⟨h2, h2'⟩, h2''⟩, ⟨h3, h3'⟩, ⟨⟨h4, h4'⟩, h4''⟩, h5, h5'⟩ := h
 unfold chkR
 rw [if_pos h0, if_pos]
 unfold z1z z5n z5p z3r z54 z3q
 simp only [Bool.and_eq_true]
 refine ⟨⟨z8s h1, h1'⟩, ⟨⟨h2, z4z _ _ h2'⟩, h2''⟩, ⟨z4z _ _ h3, h3'⟩, ⟨⟨h4, z4z _ _ h4'⟩, h4''⟩, z4z _ _ h5, ?_⟩
 rw [List.all_eq_true] at h5' ⊢
 exact fun i hi => zvf (h5' i hi)
end Go.Proofs.YtjjfeddenhemhaaGreatDoor
namespace Go.Proofs.YtjjfeddenhemhaaGreatDoor
open Go.RowKit
set_option linter.unusedVariables false
set_option maxRecDepth 1000000
theorem zlq : decR (Play.start Tryz.prog [] 10000000 18 ([Value.int .i64 0].map .lit) (.mk .e .nil)) = some given0 := by kernel_rfl
theorem zlr : decR (Play.start Tryz.prog [] 10000000 18 ([Value.int .i64 1].map .lit) (.mk .e .nil)) = some given1 := by kernel_rfl
theorem zln (w : World) : Calls Tryz.prog 18 #[.int .i64 0] w fun e w' => ∃ x : Value, e = .returned x ∧ zu w' x given0 ∧ Below w.heap.size w w' := zfy zlq w
theorem z5f (w : World) : Calls Tryz.prog 18 #[.int .i64 1] w fun e w' => ∃ x : Value, e = .returned x ∧ zu w' x given1 ∧ Below w.heap.size w w' := zfy zlr w
theorem valid0 : chkR given0 = 0 := zgh (by kernel_rfl)
theorem valid1 : chkR given1 = 0 := zgh (by kernel_rfl)
def zr8 (t : Tm) : Bool := !t.long && Nat.ble t.dp 9000
def zoe (m : Mach) : Bool := m.instrs.all fun x => x.effs.all fun f => zr8 f.addr && (zr8 f.value && zr8 f.cond)
theorem zc9 {t : Tm} (h : zr8 t = true) : TmOk t := by
 simp only [zr8, Bool.and_eq_true, Bool.not_eq_true'] at h
 exact ⟨h.1, Nat.le_of_ble_eq_true h.2⟩
theorem zak {m : Mach} (h : zoe m = true) : ∀ x ∈ m.instrs, ∀ f ∈ x.effs, z3f f := by
 intro x hx f hf
 unfold zoe at h
 have h1 := List.all_eq_true.1 (List.all_eq_true.1 h x hx) f hf
 simp only [Bool.and_eq_true] at h1
 exact ⟨zc9 h1.1, zc9 h1.2.1, zc9 h1.2.2⟩
theorem effs0 : ∀ x ∈ given0.instrs, ∀ f ∈ x.effs, z3f f := zak (by kernel_rfl)
theorem effs1 : ∀ x ∈ given1.instrs, ∀ f ∈ x.effs, z3f f := zak (by kernel_rfl)
end Go.Proofs.YtjjfeddenhemhaaGreatDoor
