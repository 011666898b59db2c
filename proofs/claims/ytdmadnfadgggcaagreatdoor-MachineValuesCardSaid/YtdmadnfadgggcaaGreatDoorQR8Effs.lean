import Derived.Test.YtdmadnfadgggcaaGreatDoorQR8Same
set_option linter.unusedVariables false
set_option linter.unusedSimpArgs false
set_option warningAsError false
noncomputable section
namespace Go.Proofs.YtdmadnfadgggcaaGreatDoor
open Go.RowKit
set_option maxRecDepth 100000
theorem zg5 {a b : ByteArray} (h : rDot a = rDot b) : a = b := by
 unfold rDot at h;have h1 : (#[114, 46] ++ a.data).toList = (#[114, 46] ++ b.data).toList := by have := congrArg (fun z => z.data.toList) h;exact this
 simp only [Array.toList_append, List.append_cancel_left_eq] at h1;cases a; cases b
 congr
 exact Array.toList_inj.1 h1
theorem zh1 (a : ByteArray) : rDot a ≠ z1a := by
 intro h;unfold rDot z1a at h;have h1 : (#[114, 46] ++ a.data).toList = (#[112, 99] : Array UInt8).toList := by have := congrArg (fun z => z.data.toList) h;exact this
 simp at h1
theorem z6p (K : ByteArray -> Int) (s : ByteArray) (z : Int) : putK K s z s = z := by unfold putK; exact if_pos rfl
theorem z4f {K : ByteArray -> Int} {s u : ByteArray} {z : Int} (h : u ≠ s) : putK K s z u = K u := by unfold putK; exact if_neg h
theorem z5d (s : ByteArray) : ∀ (R : List MReg) (K : ByteArray -> Int), (∀ y ∈ R, s ≠ rDot y.name) -> R.foldl (fun K r => putK K (rDot r.name) r.width) K s = K s
 | [], _, _ => rfl
 | x :: R, K, h => by rw [List.foldl_cons, z5d s R _ fun y hy => h y (List.mem_cons_of_mem _ hy), z4f (h x (by simp))]
theorem z9t (s : ByteArray) (w : Int) (hw : 1 <= w) : ∀ (R : List MReg), (R.map fun r => r.name).Nodup -> ∀ K : ByteArray -> Int, K s = 0 -> varG s w R = decide (R.foldl (fun K r => putK K (rDot r.name) r.width) K s = w)
 | [], _, K, h => by
   rw [List.foldl_nil, h];unfold varG
   exact (decide_eq_false (by omega)).symm
 | x :: R, hn, K, h => by
   rw [List.map_cons, List.nodup_cons] at hn;rw [List.foldl_cons];unfold varG;by_cases e : rDot x.name = s
   ·rw [if_pos (z36.2 e), z5d s R _ fun y hy hs => hn.1 (by
     have : y.name = x.name := zg5 (by rw [<- hs, e]);rw [<- this]; exact List.mem_map_of_mem hy), <- e, z6p]
    exact decide_eq_decide.2 eq_comm
   ·rw [if_neg (fun q => e (z36.1 q))];exact z9t s w hw R hn.2 _ (by rw [z4f (fun q => e q.symm)]; exact h)
theorem z9u (ad : Int) (R : List MReg) (L : List MBank) (s : ByteArray) (w : Int) : ∀ (ops : List MOper), (ops.map fun o => o.name).Nodup -> ∀ K : ByteArray -> Int, varG s w R = decide (K s = w) -> varO (zu ad R L) s w R ops = decide (z2y ad R L K ops s = w)
 | [], _, K, h => h
 | o :: ops, hn, K, h => by
   rw [List.map_cons, List.nodup_cons] at hn;have e1 : z2y ad R L K (o :: ops) = z2y ad R L (putK K o.name (zu ad R L o)) ops := rfl;rw [e1];unfold varO;by_cases e : o.name = s
   ·rw [if_pos (z36.2 e), z4r ad R L _ s ops (by rw [<- e]; exact hn.1), <- e, z6p];exact decide_eq_decide.2 eq_comm
   ·rw [if_neg (fun q => e (z36.1 q))];exact z9u ad R L s w ops hn.2 _ (by rw [z4f (fun q => e q.symm)]; exact h)
theorem zbd {m : Mach} {ops : List MOper} (hR : (m.regs.map fun r => r.name).Nodup) (hO : (ops.map fun o => o.name).Nodup) (hpc : z1a ∉ ops.map fun o => o.name) (s : ByteArray) (w : Int) (hw : 1 <= w) :
 z8g m ops s w = decide (z2y m.address m.regs m.banks (z3x m) ops s = w) := by
 unfold z8g;by_cases e : s = z1a
 ·subst e;rw [if_pos (z36.2 rfl), z4r _ _ _ _ _ _ hpc];unfold z3x;rw [z5d _ _ _ fun y _ h => zh1 _ h.symm, z6p];exact decide_eq_decide.2 eq_comm
 ·rw [if_neg (fun q => e (z36.1 q))];refine z9u _ _ _ _ _ _ hO _ ?_;unfold z3x;exact z9t s w hw _ hR _ (by rw [z4f e])
theorem z69 {t : Tm} (h : zp t = true) : 1 <= t.width /\ t.sub.length = zm t.kind := by
 unfold zp at h;simp only [Bool.and_eq_true, beq_iff_eq] at h;refine ⟨?_, h.2.2.2.1⟩;have := h.2.2.1;unfold okW at this;by_cases hq : 1 <= t.width /\ t.width <= 64
 ·exact hq.1
 ·rw [if_neg hq] at this; cases this
mutual
theorem z7i {V : ByteArray -> Int -> Bool} {K : ByteArray -> Int} {ad : Int} (hV : ∀ s w, 1 <= w -> V s w = decide (K s = w)) : ∀ t : Tm, (∀ u ∈ t.nodes, zp u = true) -> z2s V ad t = z2e K ad t
 | .mk k w b s lo l, h => by
   obtain ⟨h1, h2⟩ := z69 (h _ (Tm.nodes_self _));have h3 := z6c (ad := ad) hV l fun u hu => h u (by rw [Tm.nodes_eq]; exact List.mem_cons_of_mem _ hu);unfold z2s z2e;by_cases hk : k = 2
   ·subst hk;have hl : l = [] := List.eq_nil_of_length_eq_zero h2;subst hl;rw [if_pos rfl, hV s w h1];simp [z2j]
   ·rw [if_neg hk, h3];by_cases h24 : k = 24
    ·by_cases hw : (l.headD default).width = ad
     ·rw [if_neg (fun h => h.2 hw), decide_eq_true hw]; simp [hk]
     ·rw [if_pos ⟨h24, hw⟩, decide_eq_false hw]; simp [h24]
    ·rw [if_neg (fun h => h24 h.1)]; simp [hk, h24]
theorem z6c {V : ByteArray -> Int -> Bool} {K : ByteArray -> Int} {ad : Int} (hV : ∀ s w, 1 <= w -> V s w = decide (K s = w)) : ∀ l : List Tm, (∀ u ∈ l.flatMap Tm.nodes, zp u = true) -> z2j V ad l = z3l K ad l
 | [], _ => rfl
 | t :: l, h => by unfold z2j z3l;rw [z7i hV t fun u hu => h u (by rw [List.flatMap_cons]; exact List.mem_append_left _ hu), z6c hV l fun u hu => h u (by rw [List.flatMap_cons]; exact List.mem_append_right _ hu)]
end
theorem zdn {m : Mach} {ops : List MOper} {K : ByteArray -> Int} (hV : ∀ s w, 1 <= w -> z8g m ops s w = decide (K s = w)) (t : Tm) : fits8 m ops t = z1z K m.address t := by
 unfold fits8 z1z;by_cases h : z1r t = 0
 ·rw [z7i hV t ((z2l t).1 h).2.2.1]
 ·simp [h]
theorem zdo {K : ByteArray -> Int} {ad : Int} {t : Tm} (h : z1z K ad t = true) : 1 <= t.width := by unfold z1z at h;simp only [Bool.and_eq_true, decide_eq_true_eq] at h;exact (z69 (((z2l t).1 h.1).2.2.1 t (Tm.nodes_self t))).1
theorem zaz {m : Mach} {ops : List MOper} {K : ByteArray -> Int} (hV : ∀ s w, 1 <= w -> z8g m ops s w = decide (K s = w)) (f : MEff) : z4x m ops f = effR K m.address m.regs m.banks ops f := by
 unfold z4x effR z37 zas;simp only [zdn hV];obtain ⟨a, ha⟩ : ∃ z, z2z f.addr = z := ⟨_, rfl⟩;obtain ⟨c, hc⟩ : ∃ z, z2z f.cond = z := ⟨_, rfl⟩;obtain ⟨fa, hfa⟩ : ∃ z, z1z K m.address f.addr = z := ⟨_, rfl⟩;obtain ⟨fc, hfc⟩ : ∃ z, z1z K m.address f.cond = z := ⟨_, rfl⟩;obtain ⟨fv, hfv⟩ : ∃ z, z1z K m.address f.value = z := ⟨_, rfl⟩;rw [ha, hc, hfa, hfc, hfv];by_cases k1 : f.kind = 1
 ·simp only [k1, if_true, decide_true, Bool.true_or, Bool.true_and, show decide ((1 : Nat) = 2) = false from rfl, show decide ((1 : Nat) = 3) = false from rfl, Bool.false_or]
  cases fv with
  | false => simp
  | true =>
    have hw := zdo hfv;unfold z48;by_cases ho : f.oper = -1
    ·rw [if_pos ho];by_cases hr : 0 <= f.reg /\ f.reg < m.regs.length
     ·rw [if_pos (show 0 <= f.reg /\ f.reg <= (m.regs.length : Int) - 1 by omega), if_pos ⟨ho, hr⟩];simp only [ho, decide_true, Bool.true_or, Bool.true_and];cases a <;> cases c <;> simp
     ·rw [if_neg (show ¬ (0 <= f.reg /\ f.reg <= (m.regs.length : Int) - 1) by omega), if_neg (fun h => hr h.2), if_neg (by omega)];rw [decide_eq_false (show ¬ f.value.width = 0 by omega)];cases a <;> cases c <;> simp
    ·rw [if_neg ho, if_neg (show ¬ (f.oper = -1 /\ 0 <= f.reg /\ f.reg < m.regs.length) from fun h => ho h.1), decide_eq_false ho, Bool.false_or];by_cases hr : 0 <= f.oper /\ f.oper < ops.length
     ·rw [if_pos (show 0 <= f.oper /\ f.oper <= (ops.length : Int) - 1 by omega), if_pos hr]
      cases hq : ops[f.oper.toNat]? with
      | none => simp only; rw [decide_eq_false (show ¬ f.value.width = 0 by omega)]; cases a <;> cases c <;> simp
      | some o =>
        show (a && (c && (true && (decide (f.reg = 0) && (decide (o.kind = 1) && decide (f.value.width = zu m.address m.regs m.banks o)))))) = (true && decide (f.value.width = if (o.kind : Int) = 1 then zu m.address m.regs m.banks o else 0) && (decide (f.reg = 0) && (a && c)));by_cases hk : o.kind = 1
        ·rw [if_pos (show (o.kind : Int) = 1 by omega), decide_eq_true hk, Bool.true_and];cases a <;> cases c <;> cases decide (f.reg = 0) <;> simp
        ·rw [if_neg (show ¬ ((o.kind : Int) = 1) by omega), decide_eq_false hk, decide_eq_false (show ¬ f.value.width = 0 by omega)];cases a <;> cases c <;> simp
     ·rw [if_neg (show ¬ (0 <= f.oper /\ f.oper <= (ops.length : Int) - 1) by omega), if_neg hr, decide_eq_false (show ¬ f.value.width = 0 by omega)];cases a <;> cases c <;> simp
 ·obtain ⟨o0, ho0⟩ : ∃ z, decide (f.oper = 0) = z := ⟨_, rfl⟩;obtain ⟨r0, hr0⟩ : ∃ z, decide (f.reg = 0) = z := ⟨_, rfl⟩;rw [ho0, hr0];simp only [k1, if_false, decide_false, Bool.false_or, Bool.false_and];by_cases k2 : f.kind = 2
  ·simp only [k2, if_true, decide_true, Bool.true_or, Bool.true_and, show decide ((2 : Nat) = 3) = false from rfl, Bool.false_or];cases o0 <;> cases r0 <;> cases c <;> cases fa <;> cases fv <;> simp
  ·simp only [k2, if_false, decide_false, Bool.false_or];by_cases k3 : f.kind = 3
   ·simp only [k3, if_true, decide_true, Bool.true_or, Bool.true_and];cases o0 <;> cases r0 <;> cases a <;> cases fv <;> simp
   ·simp only [k3, if_false, decide_false, Bool.false_or];by_cases k4 : f.kind = 4
    ·simp only [k4, if_true];cases o0 <;> cases r0 <;> cases a <;> cases c <;> cases fv <;> simp
    ·simp only [k4, if_false, Bool.false_and]
theorem z7m {m : Mach} {x : MIns} (hl : limM m = true) (hh : z31 m = true) (hr : z2h m.regs = true) (hb : z22 m.regs m.banks = true) (hm1 : x.mask < 18446744073709551616) (hm2 : x.mtch < 18446744073709551616) : z51 m x = insR m (z3x m) x := by
 unfold z31 at hh;simp only [Bool.and_eq_true, decide_eq_true_eq] at hh;have hw := hh.2.1;have hB := z7e hl hb;have hRn : (m.regs.map fun r => r.name).Nodup := by unfold z2h at hr;simp only [Bool.and_eq_true] at hr;exact z3p hr.1.2
 have hc4 := z8u 4 x.effs;have hc3 := z8u 3 x.effs;have hmk : x.mask <= mk (8 * m.word).toNat ↔ x.mask < 2 ^ (8 * m.word).toNat := by have := Nat.two_pow_pos (8 * m.word).toNat;unfold mk;omega
 apply Bool.eq_iff_iff.2;unfold z51 insR z4y za4;simp only [Bool.and_eq_true, Bool.or_eq_true, Bool.not_eq_true', Bool.or_eq_false_iff, Bool.and_eq_false_iff, decide_eq_true_eq, decide_eq_false_iff_not, zc7 hm1 hm2, hmk];constructor
 ·rintro ⟨h1, h2, h3, h4, h5, h6⟩;have ho := (z5r hw hB h1 x.opers).1 ⟨h3, h4⟩;have hn : zq [] (x.opers.map fun o => o.name) = true := by
   unfold z3a at ho;rw [Bool.and_eq_true] at ho;exact ho.1
  have hpc : z1a ∉ x.opers.map fun o => o.name := fun hmem => by obtain ⟨o, ho1, ho2⟩ := List.mem_map.1 hmem;unfold z3a at ho;rw [Bool.and_eq_true] at ho;exact (z3q _ _ _ ho.2 o ho1).1 ho2
  refine ⟨⟨⟨h1, h2, by omega, by omega, by omega, h6.2.2.1, h6.2.2.2.1, h6.2.2.2.2.1, by omega⟩, ho⟩, ?_⟩;rw [List.all_eq_true] at h5 ⊢;intro f hf;rw [<- zaz (zbd hRn (z3p hn) hpc) f];exact h5 f hf
 ·rintro ⟨⟨⟨h1, h2, h3, h4, h5, h6, h7, h8, h9⟩, ho⟩, he⟩;have hn : zq [] (x.opers.map fun o => o.name) = true := by
   unfold z3a at ho;rw [Bool.and_eq_true] at ho;exact ho.1
  have hpc : z1a ∉ x.opers.map fun o => o.name := fun hmem => by obtain ⟨o, ho1, ho2⟩ := List.mem_map.1 hmem;unfold z3a at ho;rw [Bool.and_eq_true] at ho;exact (z3q _ _ _ ho.2 o ho1).1 ho2
  obtain ⟨g1, g2⟩ := (z5r hw hB h1 x.opers).2 ho;refine ⟨h1, h2, g1, g2, ?_, by omega, by omega, h6, h7, h8, by omega⟩;rw [List.all_eq_true] at he ⊢;intro f hf;rw [zaz (zbd hRn (z3p hn) hpc) f];exact he f hf
def chk8 (m : Mach) : Int :=
 if limM m = true then (if (z31 m && (z2h m.regs && (z22 m.regs m.banks && (z35 m.units && (zq [] (m.instrs.map fun x => x.name) && m.instrs.all (z51 m)))))) = true then 0 else 8) else 4
theorem zd2 {m : Mach} (hm : ∀ x ∈ m.instrs, x.mask < 18446744073709551616 /\ x.mtch < 18446744073709551616) : chk8 m = chkR m := by
 unfold chk8 chkR z26 z42
 cases hl : limM m with
 | false => rfl
 | true =>
   simp only [if_true]
   cases hh : z31 m with
   | false => rfl
   | true =>
     cases hr : z2h m.regs with
     | false => rfl
     | true =>
       cases hb : z22 m.regs m.banks with
       | false => rfl
       | true =>
         have : m.instrs.all (z51 m) = m.instrs.all (insR m (z3x m)) := by
          apply Bool.eq_iff_iff.2;simp only [List.all_eq_true];constructor
          ·intro h x hx; rw [<- z7m hl hh hr hb (hm x hx).1 (hm x hx).2]; exact h x hx
          ·intro h x hx; rw [z7m hl hh hr hb (hm x hx).1 (hm x hx).2]; exact h x hx
         rw [this]
end Go.Proofs.YtdmadnfadgggcaaGreatDoor
