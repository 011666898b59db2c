import Derived.Test.YtdmadnfadgggcaaGreatDoorGj
import Derived.Test.YtdmadnfadgggcaaGreatDoorGh
import Derived.BigQuiet
import Derived.Deep.QuietTactic
set_option linter.unusedVariables false
set_option linter.unusedSimpArgs false
set_option warningAsError false
set_option maxHeartbeats 4000000
open Go.Lib (hid)
open Go.Proofs.Tryz (prog)
namespace Go.Proofs.YtdmadnfadgggcaaGreatDoor
open Go.RowKit Go.Instr Go.Sort
set_option maxRecDepth 100000
def z1o (K : ByteArray -> Int) (D : DataW Unit) : Prop := Maps.IsMap D /\ ∀ s : ByteArray, D.atKey (z1b s) (.lit (.int .i64 0)) = .lit (.int .i64 (K s))
theorem zha {W : World} {B n : Nat} {D : DataW Unit} {K : ByteArray -> Int} (h : W.ownsMap prog 9 (plainElem prog 3) B n D) (hk : z1o K D) (s : ByteArray) (hs : s.size <= maxLen) :
 (Instr.lookup 139 (.map (some B)) (.string s) false).run prog W = .ok (.int .i64 (K s)) W := by
 obtain ⟨c, hrun, hv, _⟩ := h.lookup_int (Maps.string_keyed Tryz.underlying9) Tryz.underlying139 Tryz.underlying3 (by kernel_rfl) (Go.WideMaps.keyOf_string_mk Tryz.underlying9 hs);have e := (hk.2 s).symm.trans hv;obtain rfl : K s = c := by injection e with e; injection e with e1 e2
 exact hrun
def zh5 (w : World) (g : Nat) (lb : Array Value) (p : Tm -> Bool) (L : List Tm) : Prop :=
 ∀ (W : World), Below w.heap.size w W -> ∀ x, x ∈ L -> ∀ cs, zcn W cs x -> Calls prog g (#[.agg cs.toArray] ++ lb) W fun e w' => e = .returned (.bool (p x)) /\ Below W.heap.size W w'
theorem zfp (v : Value) (L : List Tm) (w : World) (hR : SubAt w w.heap.size v L) (g : Nat) (lb : Array Value) (eg : ∀ args w, (callFunc g args).run prog w = .ok (.enter g args) w) (p : Tm -> Bool) (hp : zh5 w g lb p L) :
 Calls prog 194 #[v, .func (.func g) #[] lb] w fun e w' => e = .returned (.int .i64 (ixF p L)) /\ Below w.heap.size w w' := by
 have HR := hid hR;have HP := hid hp;obtain ⟨A, n, c, S, rfl, hn, hn1, _, _, _⟩ := hR.inv;have HN := hid hn;have hmx : maxLen <= 9223372036854775807 := by decide
 have hn2 : n <= 9223372036854775807 := Nat.le_trans hn1 hmx;clear hp hn1 hmx hn hR;go_enter Tryz.func194, Tryz.ntmps194
 go_wp2
 go_loopw [5, 8] (fun _ v wr => ∃ i : Nat, v = .int .i64 i /\ i <= n /\ Hid (Below w.heap.size w wr /\ ∀ j y, j < i -> L[j]? = some y -> p y = false)) (fun _ v _ => n - (intOf v).toNat)
 case atStart => exact ⟨0, rfl, Nat.zero_le _, hid ⟨Below.refl _ _, fun j y hj => absurd hj (Nat.not_lt_zero _)⟩⟩
 case round =>
  obtain ⟨i, rfl, hi, HI⟩ := hrel;by_cases hlt : i < n
  ·obtain ⟨x, hx⟩ : ∃ x, L[i]? = some x := ⟨_, List.getElem?_eq_getElem (by rw [HN.out]; exact hlt)⟩;have hRw := zr HR.out HI.out.1;obtain ⟨A', n', c', S', e1, _, _, hf, hpp, hss⟩ := hRw.inv;obtain ⟨b, o, e2, hb, z0, z1, z2, z3, z4, z5⟩ := hpp i x hx;obtain ⟨rfl, rfl, rfl⟩ : A = A' /\ n = n' /\ c = c' := by cases e1; exact ⟨rfl, rfl, rfl⟩
   subst e2;have hcall := HP.out wr HI.out.1 x (List.mem_of_getElem? hx) _ ⟨S' i, rfl, hf i x hx, hss i x hx⟩;have HX := hid hx;have HLT := hid hlt;clear hx e1 hf hpp hss hRw;simp only [Tm.cells] at hcall;obtain ⟨u0, h0⟩ : ∃ z, Value.int .u8 (x.kind : Nat) = z := ⟨_, rfl⟩;obtain ⟨u1, h1⟩ : ∃ z, Value.int .i64 x.width = z := ⟨_, rfl⟩;obtain ⟨u2, h2⟩ : ∃ z, Value.int .u64 (x.bits : Nat) = z := ⟨_, rfl⟩;obtain ⟨u3, h3⟩ : ∃ z, Value.string x.name = z := ⟨_, rfl⟩;obtain ⟨u4, h4⟩ : ∃ z, Value.int .i64 x.low = z := ⟨_, rfl⟩;obtain ⟨u5, h5⟩ : ∃ z, S' i = z := ⟨_, rfl⟩;rw [h0] at z0 hcall;rw [h1] at z1 hcall;rw [h2] at z2 hcall;rw [h3] at z3 hcall;rw [h4] at z4 hcall;rw [h5] at z5 hcall;clear h0 h1 h2 h3 h4 h5;have c0 : wr.cell? ⟨b, o + i * 6, none⟩ = some u0 := z0;have c1 : wr.cell? ⟨b, o + i * 6 + 1, none⟩ = some u1 := z1;have c2 : wr.cell? ⟨b, o + i * 6 + 2, none⟩ = some u2 := z2;have c3 : wr.cell? ⟨b, o + i * 6 + 3, none⟩ = some u3 := z3;have c4 : wr.cell? ⟨b, o + i * 6 + 4, none⟩ = some u4 := z4;have c5 : wr.cell? ⟨b, o + i * 6 + 5, none⟩ = some u5 := z5;have hcall : Calls prog g (#[.agg #[u0, u1, u2, u3, u4, u5]] ++ lb) wr fun e w' => e = .returned (.bool (p x)) /\ Below w.heap.size w w' := hcall.mono fun e w' ⟨h1, h2⟩ => ⟨h1, HI.out.1.trans (h2.mono HI.out.1.size)⟩;clear z0 z1 z2 z3 z4 z5
   cases hq : p x with
   | true =>
     have HQ := hid hq;rw [hq] at hcall;have HCL := hid hcall;clear hq hcall;go_wp2_with ((with_reducible refine HCL.out.mono ?_); rintro e w' ⟨rfl, hb'⟩)
     go_ret
     exact ⟨by rw [z32 HX.out HQ.out HI.out.2]; rfl, hb'⟩
   | false =>
     have HQ := hid hq;rw [hq] at hcall;have HCL := hid hcall;clear hq hcall;go_wp2_with ((with_reducible refine HCL.out.mono ?_); rintro e w' ⟨rfl, hb'⟩)
     go_roundw
     case rel =>
      refine ⟨i + 1, by first | rfl | go_num | (congr 1), by have := HLT.out; omega, hid ⟨hb', fun j y hj hy => ?_⟩⟩;by_cases e : j = i
      ·subst e;rw [HX.out] at hy;obtain rfl := Option.some.inj hy;exact HQ.out
      ·exact HI.out.2 j y (by omega) hy
     case measure => simp only [intOf]; have := HLT.out; omega
  ·obtain rfl : i = n := by omega
   go_wp2
   go_ret
   exact ⟨by rw [z2d (by rw [HN.out]; exact HI.out.2)]; rfl, HI.out.1⟩
theorem zda (v : Value) (L : List Tm) (w : World) (hR : SubAt w w.heap.size v L) (g : Nat) (lb : Array Value) (eg : ∀ args w, (callFunc g args).run prog w = .ok (.enter g args) w) (p : Tm -> Bool) (hp : zh5 w g lb p L) :
 Calls prog 190 #[v, .func (.func g) #[] lb] w fun e w' => e = .returned (.bool (L.any p)) /\ Below w.heap.size w w' := by
 have HC := hid (zfp v L w hR g lb eg p hp);rw [<- z5k p L];clear hR hp eg;go_enter Tryz.func190, Tryz.ntmps190
 go_wp2_with (go_at_call 194; (with_reducible refine HC.out.mono ?_); rintro e w1 ⟨rfl, hb⟩)
 go_ret
 exact ⟨rfl, hb⟩
theorem zf9 : ∀ (args : Array Value) (w : World), Sem.run prog (callFunc 191 args) w = .ok (.enter 191 args) w := fun _ _ => by kernel_rfl
theorem zl {X : World} {cs : Array Value} {ty : TypeId} {b i : Nat} {v : Value} (hb : b = X.heap.size) (hv : cs[i]? = some v) : (X.alloc (.cells cs ty)).cell? ⟨b, i, none⟩ = some v := by subst hb;simp only [World.cell?];rw [heap_alloc_new];simp [hv]
def z64 (t : Tm) : Prop := ∀ u ∈ t.nodes, u.kind = 24 -> u.sub ≠ []
theorem z64.sub {t u : Tm} (h : z64 t) (hu : u ∈ t.sub) : z64 u := fun v hv => h v (Tm.nodes_sub hu hv)
theorem ze1 (K : ByteArray -> Int) (address : Int) (t : Tm) : z2e K address t = if t.kind = 2 then decide (K t.name = t.width) else if t.kind = 24 /\ (t.sub.headD default).width ≠ address then false else t.sub.all (z2e K address) := by cases t;rw [z2e, z93];rfl
theorem zc4 (K : ByteArray -> Int) (address : Int) (t : Tm) : z2e K address t = if (t.kind : Int) = 2 then decide (K t.name = t.width) else if (t.kind : Int) = 24 /\ (t.sub.headD default).width ≠ address then false else t.sub.all (z2e K address) := by
 rw [ze1];have h1 : (t.kind = 2) ↔ ((t.kind : Int) = 2) := by omega
 have h2 : (t.kind = 24) ↔ ((t.kind : Int) = 24) := by omega
 simp only [h1, h2]
theorem ze2 (K : ByteArray -> Int) (D : DataW Unit) (hKD : z1o K D) (k B n : Nat) (address : Int) : ∀ (z : Nat) (t : Tm), t.sz <= z -> ∀ (sv : Value) (W : World), k < W.heap.size -> W.cell? ⟨k, 2, none⟩ = some (.int .i64 address) -> W.cell? ⟨k, 7, none⟩ = some (.map (some B)) ->
 W.ownsMap prog 9 (plainElem prog 3) B n D -> SubAt W W.heap.size sv t.sub -> t.fit -> z64 t ->
 Calls prog 187 #[.pointer (some ⟨k, 0, none⟩), .agg (Tm.cells t sv).toArray] W fun e w' => e = .returned (.bool (z2e K address t)) /\ Below W.heap.size W w' := by
 intro z
 induction z with
 | zero => intro t h; rw [Tm.sz_eq] at h; omega
 | succ z ih =>
   intro t hz sv W hk c2 c7 hown hs hfit hlo;have hsv := hs;obtain ⟨A, m, c, S, rfl, hm, hm1, _, hpp, _⟩ := hs.inv;obtain ⟨nm, hnm⟩ : ∃ s, t.name = s := ⟨_, rfl⟩;obtain ⟨wd, hwd⟩ : ∃ s, t.width = s := ⟨_, rfl⟩;obtain ⟨kd, hkd⟩ : ∃ s : Int, (t.kind : Int) = s := ⟨_, rfl⟩;obtain ⟨x2, h2⟩ : ∃ z, Value.int .u64 (t.bits : Nat) = z := ⟨_, rfl⟩;obtain ⟨x4, h4⟩ : ∃ z, Value.int .i64 t.low = z := ⟨_, rfl⟩;have hns : nm.size <= maxLen := by rw [<- hnm]; exact hfit.2.2.2.1
   obtain ⟨W2, hW2⟩ : ∃ W2, W2 = (W.alloc (.cells #[.pointer (some ⟨k, 0, none⟩)] 166)).alloc (.cells #[.int .u8 kd, .int .i64 wd, x2, .string nm, x4, .slice A m c] 90) := ⟨_, rfl⟩;have HW := hid hW2;have hb : Below W.heap.size W W2 := by rw [hW2]; exact ((Below.refl _ _).alloc (Nat.le_refl _) _).alloc (by simp) _
   have HB := hid hb;have HBR := hid (zg hb hb.size);have HRF := hid (Below.refl W2.heap.size W2);have hl2 : W.heap.size + 1 < W2.heap.size := by rw [hW2]; simp
   have f0 : W2.cell? ⟨W.heap.size, 0, none⟩ = some (.pointer (some ⟨k, 0, none⟩)) := by rw [hW2]; simp only [World.cell?]; rw [Below.heap_alloc _ _ _ (by simp), heap_alloc_new]; rfl
   have g0 : W2.cell? ⟨W.heap.size + 1, 0, none⟩ = some (.int .u8 kd) := by rw [hW2]; exact zl (by simp) rfl
   have g1 : W2.cell? ⟨W.heap.size + 1, 1, none⟩ = some (.int .i64 wd) := by rw [hW2]; exact zl (by simp) rfl
   have g3 : W2.cell? ⟨W.heap.size + 1, 3, none⟩ = some (.string nm) := by rw [hW2]; exact zl (by simp) rfl
   have g5 : W2.cell? ⟨W.heap.size + 1, 5, none⟩ = some (.slice A m c) := by rw [hW2]; exact zl (by simp) rfl
   have d2 := (hb.cell (p := ⟨k, 2, none⟩) hk).trans c2;have d7 := (hb.cell (p := ⟨k, 7, none⟩) hk).trans c7;have F0 := cell_regrown f0;have G0 := cell_regrown g0;have G1 := cell_regrown g1;have G3 := cell_regrown g3;have G5 := cell_regrown g5;have D2 := cell_regrown d2;have D7 := cell_regrown d7;have HL := fun d os => zha (z1u hown (HBR.out d os)) hKD nm hns;have hct : ∀ X, Below W2.heap.size W2 X -> Calls prog 190 #[.slice A m c, .func (.func 191) #[] #[.pointer (some ⟨W.heap.size, 0, none⟩)]] X fun e w' => e = .returned (.bool (t.sub.any (fun u => !(z2e K address u)))) /\ Below W.heap.size W w' := fun X hX => by
    have hbX := hb.trans (hX.mono hb.size);refine (zda _ t.sub X (zr hsv hbX) 191 _ zf9 (fun u => !(z2e K address u)) ?_).mono fun e w' ⟨h1, h2⟩ => ⟨h1, hbX.trans (h2.mono hbX.size)⟩;intro Y hY u hu cs hE;obtain ⟨sv, rfl, hfu, hsu⟩ := hE;have hYW := hX.trans (hY.mono hX.size);have q0 : Y.cell? ⟨W.heap.size, 0, none⟩ = some (.pointer (some ⟨k, 0, none⟩)) := (hYW.cell (p := ⟨W.heap.size, 0, none⟩) (by show W.heap.size < W2.heap.size; omega)).trans f0;have hYb := hb.trans (hYW.mono hb.size);have hB9 := hid (fun cs => (Below.refl Y.heap.size Y).alloc (Nat.le_refl _) (.cells cs 90));have hrec : Hid (∀ X, Below Y.heap.size Y X -> Calls prog 187 #[.pointer (some ⟨k, 0, none⟩), .agg (Tm.cells u sv).toArray] X fun e w' => e = .returned (.bool (z2e K address u)) /\ Below Y.heap.size Y w') := hid fun X2 hX2 => by have hb2 := hYb.trans (hX2.mono hYb.size);refine (ih u (by have := Tm.sz_mem hu; have := Tm.sz_eq t; omega) sv X2 (Nat.lt_of_lt_of_le hk hb2.size) ((hb2.cell hk).trans c2) ((hb2.cell hk).trans c7) (z1u hown hb2) (zr hsu hX2) hfu (hlo.sub hu)).mono fun e w' ⟨h1, h2⟩ => ⟨h1, hX2.trans (h2.mono hX2.size)⟩
    show Calls prog 191 #[.agg (Tm.cells u sv).toArray, .pointer (some ⟨W.heap.size, 0, none⟩)] Y _;obtain ⟨S2, n2, z2, _, rfl, _⟩ := hsu.inv;have q1 : (Y.alloc (.cells (Tm.cells u (.slice S2 n2 z2)).toArray 90)).cell? ⟨W.heap.size, 0, none⟩ = some (.pointer (some ⟨k, 0, none⟩)) := ((hB9.out _).cell (p := ⟨W.heap.size, 0, none⟩) (by show W.heap.size < Y.heap.size; have := hYW.size; omega)).trans q0;simp only [Tm.cells] at hrec q1 ⊢;obtain ⟨r, hr⟩ : ∃ r, z2e K address u = r := ⟨_, rfl⟩;rw [hr] at hrec ⊢;clear hr hown ih hsv hpp HL;go_enter Tryz.func191, Tryz.ntmps191
    go_wp2_with (go_at_call 187; (with_reducible refine (hrec.out _ (hB9.out _)).mono ?_); rintro e w3 ⟨rfl, hb3⟩)
    go_ret
    exact ⟨rfl, hb3⟩
   rw [show t.sub.any (fun u => !(z2e K address u)) = !(t.sub.all (z2e K address)) by rw [List.not_all_eq_any_not]] at hct;have HCT := hid hct;rw [zc4, hnm, hwd, hkd];show Calls prog 187 #[.pointer (some ⟨k, 0, none⟩), .agg #[.int .u8 (t.kind : Nat), .int .i64 t.width, .int .u64 (t.bits : Nat), .string t.name, .int .i64 t.low, .slice A m c]] W _;rw [hkd, hwd, h2, hnm, h4];by_cases e1 : kd = 2
   ·subst e1;rw [if_pos rfl];clear hct hsv hs hpp ih hown hW2 hb;obtain ⟨g, hg⟩ : ∃ g, decide (K nm = wd) = g := ⟨_, rfl⟩;rw [hg];have hg2 : (K nm == wd) = g := (by rw [<- hg]; exact Bool.beq_eq_decide_eq ..);obtain ⟨kn, hkn⟩ : ∃ z, K nm = z := ⟨_, rfl⟩;rw [hkn] at HL hg2;clear hg hkn;go_enter Tryz.func187, Tryz.ntmps187
    go_wp2_with fail
    try rw [<- HW.out]
    refine wp_region_quiet_below (by kernel_rfl) (by kernel_rfl) ?_;repeat (first | go_big_quiet_step (fail) | quiet_step (fail))
    refine wpQuiet_nil ?_;intro G hG;have hbG : Below W.heap.size W G := (by obtain ⟨p, rfl⟩ := hG; exact HBR.out _ _);clear hG;go_wp2
    go_ret
    exact ⟨rfl, hbG⟩
   ·rw [if_neg e1];have n1 : (kd == 2) = false := (by simp [e1]);by_cases e2 : kd = 24
    ·subst e2;have hne := hlo t (Tm.nodes_self t) (by omega);obtain ⟨u, hu⟩ : ∃ u, t.sub[0]? = some u := by
      cases hh : t.sub with
      | nil => exact absurd hh hne
      | cons a l => exact ⟨a, rfl⟩
     have hmp : (0 : Int) < (m : Int) := (by have := (List.getElem?_eq_some_iff.1 hu).1; omega);have hd : (t.sub.headD default).width = u.width := by
      cases hh : t.sub with
      | nil => exact absurd hh hne
      | cons a l => rw [hh] at hu; simp at hu; rw [<- hu]; rfl
     rw [hd];obtain ⟨b, o, rfl, hbl, _, q1, _⟩ := hpp 0 u hu;simp only [Nat.zero_mul, Nat.add_zero] at q1;have p1 := (hb.cell hbl).trans q1;obtain ⟨uw, huw⟩ : ∃ z, u.width = z := ⟨_, rfl⟩;rw [huw] at p1 ⊢;have P1 := cell_regrown p1;clear hd hu hne hsv hs hpp ih hown hW2 huw q1;by_cases e3 : uw = address
     ·subst e3;rw [if_neg (by simp)];have g9 : (uw != uw) = false := (by simp);go_enter Tryz.func187, Tryz.ntmps187
      go_wp2_with fail
      try rw [<- HW.out]
      refine wp_region_quiet_below (by kernel_rfl) (by kernel_rfl) ?_;repeat (first | go_big_quiet_step (fail) | quiet_step (fail))
      refine wpQuiet_nil ?_;intro G hG;have hG5 : G.cell? ⟨W.heap.size + 1, 5, none⟩ = some (.slice (some ⟨b, o, none⟩) m c) := (by obtain ⟨p, rfl⟩ := hG; exact G5 _ _);have hGW : Below W2.heap.size W2 G := (by obtain ⟨p, rfl⟩ := hG; exact below_regrown _ _ _);clear hG;go_wp2_with (go_at_call 190; (with_reducible refine (HCT.out _ hGW).mono ?_); rintro e w3 ⟨rfl, hb3⟩)
      go_ret
      exact ⟨by simp, hb3⟩
     ·rw [if_pos ⟨rfl, e3⟩];have g9 : (uw != address) = true := (by simp [e3]);clear e3;go_enter Tryz.func187, Tryz.ntmps187
      go_wp2_with fail
      try rw [<- HW.out]
      refine wp_region_quiet_below (by kernel_rfl) (by kernel_rfl) ?_;repeat (first | go_big_quiet_step (fail) | quiet_step (fail))
      refine wpQuiet_nil ?_;intro G hG;have hbG : Below W.heap.size W G := (by obtain ⟨p, rfl⟩ := hG; exact HBR.out _ _);clear hG;go_wp2
      go_ret
      exact ⟨rfl, hbG⟩
    ·rw [if_neg (fun q => e2 q.1)];have n2 : (kd == 24) = false := (by simp [e2]);clear hsv hs hpp ih hown;go_enter Tryz.func187, Tryz.ntmps187
     rw [HW.out] at HCT HRF;go_wp2_with (go_at_call 190; (with_reducible refine (HCT.out _ HRF.out).mono ?_); rintro e w3 ⟨rfl, hb3⟩)
     go_ret
     exact ⟨by simp, hb3⟩
theorem zc5 {t : Tm} (h : z1r t = 0) : z64 t := fun u hu h24 hn => by have hv := (z2l t).1 h;have hf := hv.2.2.1 u hu;unfold zp at hf;simp only [Bool.and_eq_true, beq_iff_eq] at hf;have := hf.2.2.2.1;rw [hn, h24] at this;exact absurd this (by decide)
theorem zfh (K : ByteArray -> Int) (D : DataW Unit) (hKD : z1o K D) (k B n : Nat) (address : Int) (t : Tm) (sv : Value) (W : World) (hk : k < W.heap.size) (c2 : W.cell? ⟨k, 2, none⟩ = some (.int .i64 address)) (c7 : W.cell? ⟨k, 7, none⟩ = some (.map (some B)))
 (hown : W.ownsMap prog 9 (plainElem prog 3) B n D) (hs : SubAt W W.heap.size sv t.sub) (hfit : t.fit) (hT : zs W) (hlong : t.long = false) (hdp : t.dp <= 9000) :
 Calls prog 174 #[.pointer (some ⟨k, 0, none⟩), .agg (Tm.cells t sv).toArray] W fun e w' => e = .returned (.bool (z1z K address t)) /\ Below W.heap.size W w' := by
 obtain ⟨A, m, c, S, rfl, _⟩ := hs.inv;have HB0 := hid (fun cs => (Below.refl W.heap.size W).alloc (Nat.le_refl _) (.cells cs 90));have HC := hid (fun X (hX : Below W.heap.size W X) => z8s t A m c X hdp (zr hs hX) hfit (hT.below hX) hlong);have HC1 := hid ((z8s t A m c (W.alloc (.cells (Tm.cells t (.slice A m c)).toArray 90)) hdp (zr hs (HB0.out _)) hfit (hT.below (HB0.out _)) hlong).mono (R' := fun e w' => e = .returned (.int .i64 (z1r t)) /\ Below W.heap.size W w' /\ w'.cell? ⟨W.heap.size, 0, none⟩ = some (.int .u8 (t.kind : Nat)) /\ w'.cell? ⟨W.heap.size, 1, none⟩ = some (.int .i64 t.width) /\ w'.cell? ⟨W.heap.size, 2, none⟩ = some (.int .u64 (t.bits : Nat)) /\ w'.cell? ⟨W.heap.size, 3, none⟩ = some (.string t.name) /\ w'.cell? ⟨W.heap.size, 4, none⟩ = some (.int .i64 t.low) /\ w'.cell? ⟨W.heap.size, 5, none⟩ = some (.slice A m c)) fun e w' ⟨h1, h2⟩ => ⟨h1, (HB0.out _).trans (h2.mono (HB0.out _).size), (h2.cell (p := ⟨W.heap.size, 0, none⟩) (by simp)).trans (zl rfl rfl), (h2.cell (p := ⟨W.heap.size, 1, none⟩) (by simp)).trans (zl rfl rfl), (h2.cell (p := ⟨W.heap.size, 2, none⟩) (by simp)).trans (zl rfl rfl), (h2.cell (p := ⟨W.heap.size, 3, none⟩) (by simp)).trans (zl rfl rfl), (h2.cell (p := ⟨W.heap.size, 4, none⟩) (by simp)).trans (zl rfl rfl), (h2.cell (p := ⟨W.heap.size, 5, none⟩) (by simp)).trans (zl rfl rfl)⟩);by_cases h0 : z1r t = 0
 ·have HK := hid (fun X (hX : Below W.heap.size W X) => ze2 K D hKD k B n address t.sz t (Nat.le_refl _) (.slice A m c) X (Nat.lt_of_lt_of_le hk hX.size) ((hX.cell hk).trans c2) ((hX.cell hk).trans c7) (z1u hown hX) (zr hs hX) hfit (zc5 h0));rw [show z1z K address t = z2e K address t by unfold z1z; simp [h0]];rw [h0] at HC1;obtain ⟨r, hr⟩ : ∃ r, z2e K address t = r := ⟨_, rfl⟩;rw [hr] at HK ⊢;simp only [Tm.cells] at HC1 HK ⊢;clear hr h0 hown hs hT;go_enter Tryz.func174, Tryz.ntmps174
  go_wp2_with (first
   | (go_at_call 186; (with_reducible refine HC1.out.mono ?_); rintro e w3 ⟨rfl, hb3, q0, q1, q2, q3, q4, q5⟩)
   | (go_at_call 187; (with_reducible refine (HK.out _ hb3).mono ?_); rintro e w4 ⟨rfl, hb4⟩))
  go_ret
  exact ⟨rfl, hb3.trans (hb4.mono hb3.size)⟩
 ·rw [show z1z K address t = false by unfold z1z; simp [h0]];obtain ⟨r, hr⟩ : ∃ r, z1r t = r := ⟨_, rfl⟩;rw [hr] at HC1 h0;have g : ((r : Int) == 0) = false := by simp; omega
  simp only [Tm.cells] at HC1 ⊢;clear hr h0 hown hs hT;go_enter Tryz.func174, Tryz.ntmps174
  go_wp2_with (go_at_call 186; (with_reducible refine HC1.out.mono ?_); rintro e w3 ⟨rfl, hb3, q0, q1, q2, q3, q4, q5⟩)
  go_ret
  exact ⟨rfl, hb3⟩
end Go.Proofs.YtdmadnfadgggcaaGreatDoor
namespace Go.Proofs.YtdmadnfadgggcaaGreatDoor
open Go Go.RowKit
section
variable {P : Program} {ops : Array Oper} {rest : List Oper} {o : Oper} {a : Act} {C : World -> Prop} {Q : Act -> Prop}
theorem z8q (w : World) (ty : TypeId) (b k : Nat) (cs : Array Value) (d : TypeDesc)
 (hu : P.underlying ty = some d) (hd : (match d with | .struct _ | .array _ _ => true | _ => false) = true) (hi : (P.info? ty).map (·.size) = some cs.size)
 (hc : ∀ j v, cs[j]? = some v -> w.cell? ⟨b, k + j, none⟩ = some v) : (loadVar ty ⟨b, k, none⟩).run P w = .ok (.agg cs) w := by
 have hl : (loadCells ⟨b, k, none⟩ cs.toList.length).run P w = .ok cs.toList.toArray w :=
  run_loadCells_list (P := P) w ⟨b, k, none⟩ cs.toList (fun j v hv => by
   have hadd : (⟨b, k, none⟩ : Addr).add j = ⟨b, k + j, none⟩ := by unfold Addr.add; split <;> simp_all
   rw [hadd];exact hc j v (by simpa using hv))
 cases hq : P.info? ty with
 | none => simp [hq] at hi
 | some i =>
   have hs : i.size = cs.size := by simpa [hq] using hi
   have hagg : (isAgg ty).run P w = .ok true w := by unfold isAgg;rw [Sem.run_bind, run_underlying hu w];cases d <;> simp_all
   simp only [Array.length_toList, Array.toArray_toList] at hl;simp [loadVar, Sem.run_bind, hagg, sizeOf, typeInfo, hq, hs, hl]
theorem z8p (hgd : o.guard = none) (ty : TypeId) (x : Operand) (ho : o.op = .load ty x) (b k : Nat) (hx : a.eval x = .pointer (some ⟨b, k, none⟩)) (cs : Array Value) (d : TypeDesc)
 (hu : P.underlying ty = some d) (hd : (match d with | .struct _ | .array _ _ => true | _ => false) = true) (hi : (P.info? ty).map (·.size) = some cs.size)
 (hc : ∀ w, C w -> ∀ j v, cs[j]? = some v -> w.cell? ⟨b, k + j, none⟩ = some v)
 (h : wpQuiet P ops C Q rest (a.put o.dst (.agg cs))) : wpQuiet P ops C Q (o :: rest) a :=
 wpQuiet_step fun K hK => by rw [if_pos (by simp [Region.wanted, hgd])];refine ⟨.agg cs, fun w hw => ?_, hK _ h⟩;have hlv := z8q (P := P) w ty b k cs d hu hd hi (hc w hw);unfold Oper.quietAt execOp;simp only [ho, hx, Instr.loadAt, Instr.sureAddr, Sem.run_bind, Sem.run_pure, Result.andThen_ok, hlv];exact ⟨rfl, rfl⟩
end
end Go.Proofs.YtdmadnfadgggcaaGreatDoor
namespace Go.Proofs.YtdmadnfadgggcaaGreatDoor
open Go.RowKit Go.Instr Go.Sort
set_option maxRecDepth 100000
theorem bools4 (X : World) (a b c d : Bool) (t : TypeId) : zf 1 z65 (X.alloc (.cells #[.bool a, .bool b, .bool c, .bool d] t)) (.slice (some ⟨X.heap.size, 0, none⟩) 4 4) [a, b, c, d] := by
 refine ⟨_, _, rfl, by simp [maxLen], by simp, by simp [maxLen], fun i x hx => ⟨X.heap.size, 0, [.bool x], rfl, by simp, rfl, fun j u hj => ?_, rfl⟩⟩
 cases j with
 | succ j => simp at hj
 | zero =>
   simp at hj;subst hj;simp only [World.cell?];rw [heap_alloc_new]
   match i, hx with
   | 0, hx => simp at hx; subst hx; rfl
   | 1, hx => simp at hx; subst hx; rfl
   | 2, hx => simp at hx; subst hx; rfl
   | 3, hx => simp at hx; subst hx; rfl
   | i + 4, hx => simp at hx
theorem must3 (X : World) (k : Nat) (m : Mach) (sr sb su si wm : Value) (bad : Bool) (hC : ChkAt X k m sr sb su si wm bad) (a b c : Bool) :
 Calls prog 135 #[.pointer (some ⟨k, 0, none⟩), .slice (some ⟨X.heap.size, 0, none⟩) 3 3] (X.alloc (.cells #[.bool a, .bool b, .bool c] 4)) fun e w' => e = .returned (.tuple #[]) /\ Then8 k X w' (bad || !(a && (b && c))) := by
 have hb : Below X.heap.size X (X.alloc (.cells #[.bool a, .bool b, .bool c] 4)) := (Below.refl _ _).alloc (Nat.le_refl _) _;have hl := hC.later hb;refine (z3o k bad _ [a, b, c] _ (bools3 X a b c 4) hl.c8 hl.fz).mono fun e w' ⟨h1, h2⟩ => ⟨h1, ?_⟩;rw [show (bad || !([a, b, c].all id)) = (bad || !(a && (b && c))) by simp [List.all_cons]] at h2;rw [h2];exact Then8.set _ hb hC.lt hC.c8 hC.fz
theorem must4 (X : World) (k : Nat) (m : Mach) (sr sb su si wm : Value) (bad : Bool) (hC : ChkAt X k m sr sb su si wm bad) (a b c d : Bool) :
 Calls prog 135 #[.pointer (some ⟨k, 0, none⟩), .slice (some ⟨X.heap.size, 0, none⟩) 4 4] (X.alloc (.cells #[.bool a, .bool b, .bool c, .bool d] 4)) fun e w' => e = .returned (.tuple #[]) /\ Then8 k X w' (bad || !(a && (b && (c && d)))) := by
 have hb : Below X.heap.size X (X.alloc (.cells #[.bool a, .bool b, .bool c, .bool d] 4)) := (Below.refl _ _).alloc (Nat.le_refl _) _;have hl := hC.later hb;refine (z3o k bad _ [a, b, c, d] _ (bools4 X a b c d 4) hl.c8 hl.fz).mono fun e w' ⟨h1, h2⟩ => ⟨h1, ?_⟩;rw [show (bad || !([a, b, c, d].all id)) = (bad || !(a && (b && (c && d)))) by simp [List.all_cons]] at h2;rw [h2];exact Then8.set _ hb hC.lt hC.c8 hC.fz
theorem z68 (W : World) (k : Nat) (m : Mach) (sr sb su si wm : Value) (bad : Bool) (hC : ChkAt W k m sr sb su si wm bad) (kv op rg wa wv wc : Int) (t0 t2 t3 t4 t5 t6 t8 t9 t10 t11 t12 t14 t15 t16 t17 : Value) (ti : Bool) (CS : Array Value) (hCS : CS = #[.int .u8 kv, .int .i64 op, .int .i64 rg, t0, .int .i64 wa, t2, t3, t4, t5, t6, .int .i64 wv, t8, t9, t10, t11, t12, .int .i64 wc, t14, t15, t16, t17]) :
 ∃ W1, W1 = W.alloc (.cells CS 92) /\ Below W.heap.size W W1 /\ W1.heap[W.heap.size]? = some (.cells CS 92) /\ W.heap.size < W1.heap.size /\
 W1.cell? ⟨W.heap.size, 0, none⟩ = some (.int .u8 kv) /\ W1.cell? ⟨W.heap.size, 1, none⟩ = some (.int .i64 op) /\ W1.cell? ⟨W.heap.size, 2, none⟩ = some (.int .i64 rg) /\ W1.cell? ⟨W.heap.size, 3, none⟩ = some (t0) /\ W1.cell? ⟨W.heap.size, 4, none⟩ = some (.int .i64 wa) /\ W1.cell? ⟨W.heap.size, 5, none⟩ = some (t2) /\ W1.cell? ⟨W.heap.size, 6, none⟩ = some (t3) /\ W1.cell? ⟨W.heap.size, 7, none⟩ = some (t4) /\ W1.cell? ⟨W.heap.size, 8, none⟩ = some (t5) /\ W1.cell? ⟨W.heap.size, 9, none⟩ = some (t6) /\ W1.cell? ⟨W.heap.size, 10, none⟩ = some (.int .i64 wv) /\ W1.cell? ⟨W.heap.size, 11, none⟩ = some (t8) /\ W1.cell? ⟨W.heap.size, 12, none⟩ = some (t9) /\ W1.cell? ⟨W.heap.size, 13, none⟩ = some (t10) /\ W1.cell? ⟨W.heap.size, 14, none⟩ = some (t11) /\ W1.cell? ⟨W.heap.size, 15, none⟩ = some (t12) /\ W1.cell? ⟨W.heap.size, 16, none⟩ = some (.int .i64 wc) /\ W1.cell? ⟨W.heap.size, 17, none⟩ = some (t14) /\ W1.cell? ⟨W.heap.size, 18, none⟩ = some (t15) /\ W1.cell? ⟨W.heap.size, 19, none⟩ = some (t16) /\ W1.cell? ⟨W.heap.size, 20, none⟩ = some (t17) /\
 (∀ b X Y, Then8 k W X b -> Below X.heap.size X Y -> Calls prog 135 #[.pointer (some ⟨k, 0, none⟩), .slice (some ⟨Y.heap.size, 0, none⟩) 1 1] (Y.alloc (.cells #[.bool ti] 4)) fun e w' => e = .returned (.tuple #[]) /\ Then8 k W w' (b || !ti)) /\
 (prog.info? 92).map (·.size) = some CS.size /\
 (∀ X, Below W1.heap.size W1 X -> ∀ j v, CS[j]? = some v -> X.cell? ⟨W.heap.size, 0 + j, none⟩ = some v) /\
 (∀ X : World, X.heap[W.heap.size]? = some (.cells CS 92) -> ∀ j v, CS[j]? = some v -> X.cell? ⟨W.heap.size, 0 + j, none⟩ = some v) /\
 (∀ X, Below W1.heap.size W1 X -> ∀ b w', Then8 k X w' b -> Then8 k W w' b /\ w'.heap[W.heap.size]? = some (.cells CS 92)) := by
 have hk := hC.lt;obtain ⟨W1, hW1⟩ : ∃ W1, W1 = W.alloc (.cells CS 92) := ⟨_, rfl⟩;have hb : Below W.heap.size W W1 := by rw [hW1]; exact (Below.refl _ _).alloc (Nat.le_refl _) _
 have hblk : W1.heap[W.heap.size]? = some (.cells CS 92) := by rw [hW1]; exact heap_alloc_new _ _
 have hl1 : W.heap.size < W1.heap.size := by rw [hW1]; simp
 have hf : ∀ (j : Nat) v, CS[j]? = some v -> W1.cell? ⟨W.heap.size, j, none⟩ = some v := fun j v hj => zb hblk hj;refine ⟨W1, hW1, hb, hblk, hl1, hf 0 _ (by rw [hCS]; rfl), hf 1 _ (by rw [hCS]; rfl), hf 2 _ (by rw [hCS]; rfl), hf 3 _ (by rw [hCS]; rfl), hf 4 _ (by rw [hCS]; rfl), hf 5 _ (by rw [hCS]; rfl), hf 6 _ (by rw [hCS]; rfl), hf 7 _ (by rw [hCS]; rfl), hf 8 _ (by rw [hCS]; rfl), hf 9 _ (by rw [hCS]; rfl), hf 10 _ (by rw [hCS]; rfl), hf 11 _ (by rw [hCS]; rfl), hf 12 _ (by rw [hCS]; rfl), hf 13 _ (by rw [hCS]; rfl), hf 14 _ (by rw [hCS]; rfl), hf 15 _ (by rw [hCS]; rfl), hf 16 _ (by rw [hCS]; rfl), hf 17 _ (by rw [hCS]; rfl), hf 18 _ (by rw [hCS]; rfl), hf 19 _ (by rw [hCS]; rfl), hf 20 _ (by rw [hCS]; rfl), fun b X Y hX hY => ?_, by rw [hCS]; kernel_rfl, fun X hX j v hj => ?_, fun X hX j v hj => ?_, fun X hX b w' hT => ?_⟩
 ·have hCX := hX.chk hC;refine (must1 Y k m sr sb su si wm b (hCX.later hY) ti).mono fun e w' ⟨h1, h2⟩ => ⟨h1, hX.trans ((Then8.grown hY hCX.lt hCX.c8 hCX.fz).trans h2)⟩
 ·rw [hX.cell (p := ⟨W.heap.size, 0 + j, none⟩) (by rw [hW1]; simp), Nat.zero_add];exact zb hblk hj
 ·rw [Nat.zero_add];exact zb hX hj
 ·have hbX := hb.trans (hX.mono hb.size);have hCX := hC.later hbX;refine ⟨(Then8.grown hbX hk hC.c8 hC.fz).trans hT, ?_⟩;rw [hT.block _ (Nat.lt_of_lt_of_le hl1 hX.size) (by omega), hX.block _ hl1];exact hblk
theorem zgr (W : World) (k : Nat) (m : Mach) (sr sb su si wm : Value) (bad : Bool) (hC : ChkAt W k m sr sb su si wm bad) (op rg wa wv wc ws : Int) (t0 t2 t3 t4 t5 t6 t8 t9 t10 t11 t12 t14 t15 t16 t17 so : Value) (fa fv fc zc ti : Bool) (CS : Array Value) (hCS : CS = #[.int .u8 1, .int .i64 op, .int .i64 rg, t0, .int .i64 wa, t2, t3, t4, t5, t6, .int .i64 wv, t8, t9, t10, t11, t12, .int .i64 wc, t14, t15, t16, t17])
 (hFA : ∀ X, Below W.heap.size W X -> Calls prog 174 #[.pointer (some ⟨k, 0, none⟩), .agg #[t0, .int .i64 wa, t2, t3, t4, t5]] X fun e w' => e = .returned (.bool fa) /\ Below X.heap.size X w')
 (hFV : ∀ X, Below W.heap.size W X -> Calls prog 174 #[.pointer (some ⟨k, 0, none⟩), .agg #[t6, .int .i64 wv, t8, t9, t10, t11]] X fun e w' => e = .returned (.bool fv) /\ Below X.heap.size X w')
 (hFC : ∀ X, Below W.heap.size W X -> Calls prog 174 #[.pointer (some ⟨k, 0, none⟩), .agg #[t12, .int .i64 wc, t14, t15, t16, t17]] X fun e w' => e = .returned (.bool fc) /\ Below X.heap.size X w')
 (hZC : ∀ X, Below W.heap.size W X -> Calls prog 177 #[.agg #[t12, .int .i64 wc, t14, t15, t16, t17]] X fun e w' => e = .returned (.bool zc) /\ Below X.heap.size X w')
 (hWS : ∀ X, Below W.heap.size W X -> Calls prog 175 #[.pointer (some ⟨k, 0, none⟩), .agg CS, so] X fun e w' => e = .returned (.int .i64 ws) /\ Below X.heap.size X w')
 (hTI : ∀ X b, Then8 k W X b -> Calls prog 178 #[.agg CS] X fun e w' => e = .returned (.bool ti) /\ Below X.heap.size X w') :
 Calls prog 164 #[.pointer (some ⟨k, 0, none⟩), .agg CS, so] W fun e w' => e = .returned (.tuple #[]) /\ Then8 k W w' ((bad || !(fv && decide (wv = ws))) || !ti) := by
 have hk := hC.lt;obtain ⟨W1, hW1, hb, hblk, hl1, f0, f1, f2, f3, f4, f5, f6, f7, f8, f9, f10, f11, f12, f13, f14, f15, f16, f17, f18, f19, f20, hM2, hI79, hCC, hROW, hone⟩ := z68 W k m sr sb su si wm bad hC 1 op rg wa wv wc t0 t2 t3 t4 t5 t6 t8 t9 t10 t11 t12 t14 t15 t16 t17 ti CS hCS;have HW := hid hW1;have HB := hid (zg hb hb.size);have HB1 := hid hb;have HM2 := hid hM2;have HTI := hid hTI;have HI79 := hid hI79;have HCC := hid hCC;have HROW := hid hROW;clear hM2 hI79 hCC hROW;have IFV := hid (fun d os => Calls.regrown_of (hFV _ (HB.out d os)));have IWS := hid (fun d os => Calls.regrown_of (hWS _ (HB.out d os)));obtain ⟨g1, hg1⟩ : ∃ z : Bool, decide (wv = ws) = z := ⟨_, rfl⟩;rw [hg1];have bg1 : (wv == ws) = g1 := by rw [<- hg1]; exact Bool.beq_eq_decide_eq ..
 have HM := hid (show ∀ X, Below W1.heap.size W1 X -> Calls prog 135 #[.pointer (some ⟨k, 0, none⟩), .slice (some ⟨X.heap.size, 0, none⟩) 2 2] (X.alloc (.cells #[.bool fv, .bool g1] 4)) fun e w' => e = .returned (.tuple #[]) /\ Then8 k W w' (bad || !(fv && g1)) /\ w'.heap[W.heap.size]? = some (.cells CS 92) from fun X hX => (must2 X k m sr sb su si wm bad (hC.later (hb.trans (hX.mono hb.size))) fv g1).mono fun e w' ⟨h1, h2⟩ => ⟨h1, hone X hX _ _ h2⟩);have K0 := cell_regrown f0;have K1 := cell_regrown f1;have K2 := cell_regrown f2;have K3 := cell_regrown f3;have K4 := cell_regrown f4;have K5 := cell_regrown f5;have K6 := cell_regrown f6;have K7 := cell_regrown f7;have K8 := cell_regrown f8;have K9 := cell_regrown f9;have K10 := cell_regrown f10;have K11 := cell_regrown f11;have K12 := cell_regrown f12;have K13 := cell_regrown f13;have K14 := cell_regrown f14;have K15 := cell_regrown f15;have K16 := cell_regrown f16;have K17 := cell_regrown f17;have K18 := cell_regrown f18;have K19 := cell_regrown f19;have K20 := cell_regrown f20;have f0w := f0;rw [hW1] at f0w;clear hb hC hW1 hone hTI hblk hl1 hFA hFV hFC hZC hWS hCS;go_enter Tryz.func164, Tryz.ntmps164
 go_wp2_with fail
 rw [<- HW.out];refine zi 12 (.pointer (some ⟨k, 0, none⟩)) (by kernel_rfl) (by kernel_rfl) (fun _ _ _ h => h) rfl (fun _ => rfl) ?_;simp only [List.take_succ_cons, List.take_zero, List.drop_succ_cons, List.drop_zero];repeat (first | (refine z8p rfl 92 _ rfl W.heap.size 0 rfl CS _ Tryz.underlying92 rfl HI79.out (fun X hX => HCC.out X (by obtain ⟨p, rfl⟩ := hX; exact below_regrown _ _ _)) ?_) | go_big_quiet_step (first | (with_reducible exact IFV.out _ _) | (with_reducible exact IWS.out _ _)) | quiet_step (first | (with_reducible exact IFV.out _ _) | (with_reducible exact IWS.out _ _)))
 refine wpQuiet_nil ?_;intro X hX;have hbX : Below W1.heap.size W1 X := by obtain ⟨p, rfl⟩ := hX; exact below_regrown _ _ _
 clear hX K0 f0 K1 f1 K2 f2 K3 f3 K4 f4 K5 f5 K6 f6 K7 f7 K8 f8 K9 f9 K10 f10 K11 f11 K12 f12 K13 f13 K14 f14 K15 f15 K16 f16 K17 f17 K18 f18 K19 f19 K20 f20
 go_wp2_with (first
  | (refine z1k rfl 92 _ rfl W.heap.size 0 rfl CS _ Tryz.underlying92 rfl HI79.out (HROW.out _ hblk5) ?_)
  | (go_at_call 135; first
    | ((with_reducible refine (HM2.out _ w5 w6 hT5 hb6).mono ?_); rintro e w7 ⟨rfl, hT7⟩)
    | ((with_reducible refine (HM.out X hbX).mono ?_); rintro e w5 ⟨rfl, hT5, hblk5⟩))
  | (go_at_call 178; (with_reducible refine (HTI.out w5 _ hT5).mono ?_); rintro e w6 ⟨rfl, hb6⟩))
 exact bodyPost_end (v := .tuple #[]) (by simp [results, Tryz.results164, go_sem]) rfl ⟨rfl, hT7⟩
theorem zgs (W : World) (k : Nat) (m : Mach) (sr sb su si wm : Value) (bad : Bool) (hC : ChkAt W k m sr sb su si wm bad) (op rg wa wv wc ws : Int) (t0 t2 t3 t4 t5 t6 t8 t9 t10 t11 t12 t14 t15 t16 t17 so : Value) (fa fv fc zc ti : Bool) (CS : Array Value) (hCS : CS = #[.int .u8 2, .int .i64 op, .int .i64 rg, t0, .int .i64 wa, t2, t3, t4, t5, t6, .int .i64 wv, t8, t9, t10, t11, t12, .int .i64 wc, t14, t15, t16, t17])
 (hFA : ∀ X, Below W.heap.size W X -> Calls prog 174 #[.pointer (some ⟨k, 0, none⟩), .agg #[t0, .int .i64 wa, t2, t3, t4, t5]] X fun e w' => e = .returned (.bool fa) /\ Below X.heap.size X w')
 (hFV : ∀ X, Below W.heap.size W X -> Calls prog 174 #[.pointer (some ⟨k, 0, none⟩), .agg #[t6, .int .i64 wv, t8, t9, t10, t11]] X fun e w' => e = .returned (.bool fv) /\ Below X.heap.size X w')
 (hFC : ∀ X, Below W.heap.size W X -> Calls prog 174 #[.pointer (some ⟨k, 0, none⟩), .agg #[t12, .int .i64 wc, t14, t15, t16, t17]] X fun e w' => e = .returned (.bool fc) /\ Below X.heap.size X w')
 (hZC : ∀ X, Below W.heap.size W X -> Calls prog 177 #[.agg #[t12, .int .i64 wc, t14, t15, t16, t17]] X fun e w' => e = .returned (.bool zc) /\ Below X.heap.size X w')
 (hWS : ∀ X, Below W.heap.size W X -> Calls prog 175 #[.pointer (some ⟨k, 0, none⟩), .agg CS, so] X fun e w' => e = .returned (.int .i64 ws) /\ Below X.heap.size X w')
 (hTI : ∀ X b, Then8 k W X b -> Calls prog 178 #[.agg CS] X fun e w' => e = .returned (.bool ti) /\ Below X.heap.size X w') :
 Calls prog 164 #[.pointer (some ⟨k, 0, none⟩), .agg CS, so] W fun e w' => e = .returned (.tuple #[]) /\ Then8 k W w' ((bad || !(fa && (decide (wa = m.address) && (fv && z47 wv)))) || !ti) := by
 have hk := hC.lt;obtain ⟨W1, hW1, hb, hblk, hl1, f0, f1, f2, f3, f4, f5, f6, f7, f8, f9, f10, f11, f12, f13, f14, f15, f16, f17, f18, f19, f20, hM2, hI79, hCC, hROW, hone⟩ := z68 W k m sr sb su si wm bad hC 2 op rg wa wv wc t0 t2 t3 t4 t5 t6 t8 t9 t10 t11 t12 t14 t15 t16 t17 ti CS hCS;have HW := hid hW1;have HB := hid (zg hb hb.size);have HB1 := hid hb;have HM2 := hid hM2;have HTI := hid hTI;have HI79 := hid hI79;have HCC := hid hCC;have HROW := hid hROW;clear hM2 hI79 hCC hROW;have IFA := hid (fun d os => Calls.regrown_of (hFA _ (HB.out d os)));have IFV := hid (fun d os => Calls.regrown_of (hFV _ (HB.out d os)));have d2 := (hb.cell (p := ⟨k, 2, none⟩) hk).trans hC.c2;have K29 := cell_regrown d2;obtain ⟨ad, had⟩ : ∃ z, m.address = z := ⟨_, rfl⟩;rw [had] at d2 K29 ⊢;clear d2;obtain ⟨g1, hg1⟩ : ∃ z : Bool, decide (wa = ad) = z := ⟨_, rfl⟩;rw [hg1];have bg1 : (wa == ad) = g1 := by rw [<- hg1]; exact Bool.beq_eq_decide_eq ..
 obtain ⟨g2, hg2⟩ : ∃ z : Bool, z47 wv = z := ⟨_, rfl⟩;rw [hg2];have IST := hid (show ∀ d os, Calls prog 176 #[.int .i64 wv] (grow (redrawn W1 d) os) fun e w'' => e = .returned (.bool g2) /\ ∃ p : Regrown, w'' = grow (redrawn W1 p.d) p.os from fun d os => zh (by rw [<- hg2]; exact z90 _ _));clear hg2;have HM := hid (show ∀ X, Below W1.heap.size W1 X -> Calls prog 135 #[.pointer (some ⟨k, 0, none⟩), .slice (some ⟨X.heap.size, 0, none⟩) 4 4] (X.alloc (.cells #[.bool fa, .bool g1, .bool fv, .bool g2] 4)) fun e w' => e = .returned (.tuple #[]) /\ Then8 k W w' (bad || !(fa && (g1 && (fv && g2)))) /\ w'.heap[W.heap.size]? = some (.cells CS 92) from fun X hX => (must4 X k m sr sb su si wm bad (hC.later (hb.trans (hX.mono hb.size))) fa g1 fv g2).mono fun e w' ⟨h1, h2⟩ => ⟨h1, hone X hX _ _ h2⟩);have K0 := cell_regrown f0;have K1 := cell_regrown f1;have K2 := cell_regrown f2;have K3 := cell_regrown f3;have K4 := cell_regrown f4;have K5 := cell_regrown f5;have K6 := cell_regrown f6;have K7 := cell_regrown f7;have K8 := cell_regrown f8;have K9 := cell_regrown f9;have K10 := cell_regrown f10;have K11 := cell_regrown f11;have K12 := cell_regrown f12;have K13 := cell_regrown f13;have K14 := cell_regrown f14;have K15 := cell_regrown f15;have K16 := cell_regrown f16;have K17 := cell_regrown f17;have K18 := cell_regrown f18;have K19 := cell_regrown f19;have K20 := cell_regrown f20;have f0w := f0;rw [hW1] at f0w;clear hb hC hW1 hone hTI hblk hl1 hFA hFV hFC hZC hWS hCS;go_enter Tryz.func164, Tryz.ntmps164
 go_wp2_with fail
 rw [<- HW.out];refine zi 21 (.pointer (some ⟨k, 0, none⟩)) (by kernel_rfl) (by kernel_rfl) (fun _ _ _ h => h) rfl (fun _ => rfl) ?_;simp only [List.take_succ_cons, List.take_zero, List.drop_succ_cons, List.drop_zero];repeat (first  | go_big_quiet_step (first | (with_reducible exact IFA.out _ _) | (with_reducible exact IFV.out _ _) | (with_reducible exact IST.out _ _)) | quiet_step (first | (with_reducible exact IFA.out _ _) | (with_reducible exact IFV.out _ _) | (with_reducible exact IST.out _ _)))
 refine wpQuiet_nil ?_;intro X hX;have hbX : Below W1.heap.size W1 X := by obtain ⟨p, rfl⟩ := hX; exact below_regrown _ _ _
 clear hX K0 f0 K1 f1 K2 f2 K3 f3 K4 f4 K5 f5 K6 f6 K7 f7 K8 f8 K9 f9 K10 f10 K11 f11 K12 f12 K13 f13 K14 f14 K15 f15 K16 f16 K17 f17 K18 f18 K19 f19 K20 f20
 go_wp2_with (first
  | (refine z1k rfl 92 _ rfl W.heap.size 0 rfl CS _ Tryz.underlying92 rfl HI79.out (HROW.out _ hblk5) ?_)
  | (go_at_call 135; first
    | ((with_reducible refine (HM2.out _ w5 w6 hT5 hb6).mono ?_); rintro e w7 ⟨rfl, hT7⟩)
    | ((with_reducible refine (HM.out X hbX).mono ?_); rintro e w5 ⟨rfl, hT5, hblk5⟩))
  | (go_at_call 178; (with_reducible refine (HTI.out w5 _ hT5).mono ?_); rintro e w6 ⟨rfl, hb6⟩))
 exact bodyPost_end (v := .tuple #[]) (by simp [results, Tryz.results164, go_sem]) rfl ⟨rfl, hT7⟩
theorem zdg (W : World) (k : Nat) (m : Mach) (sr sb su si wm : Value) (bad : Bool) (hC : ChkAt W k m sr sb su si wm bad) (op rg wa wv wc ws : Int) (t0 t2 t3 t4 t5 t6 t8 t9 t10 t11 t12 t14 t15 t16 t17 so : Value) (fa fv fc zc ti : Bool) (CS : Array Value) (hCS : CS = #[.int .u8 3, .int .i64 op, .int .i64 rg, t0, .int .i64 wa, t2, t3, t4, t5, t6, .int .i64 wv, t8, t9, t10, t11, t12, .int .i64 wc, t14, t15, t16, t17])
 (hFA : ∀ X, Below W.heap.size W X -> Calls prog 174 #[.pointer (some ⟨k, 0, none⟩), .agg #[t0, .int .i64 wa, t2, t3, t4, t5]] X fun e w' => e = .returned (.bool fa) /\ Below X.heap.size X w')
 (hFV : ∀ X, Below W.heap.size W X -> Calls prog 174 #[.pointer (some ⟨k, 0, none⟩), .agg #[t6, .int .i64 wv, t8, t9, t10, t11]] X fun e w' => e = .returned (.bool fv) /\ Below X.heap.size X w')
 (hFC : ∀ X, Below W.heap.size W X -> Calls prog 174 #[.pointer (some ⟨k, 0, none⟩), .agg #[t12, .int .i64 wc, t14, t15, t16, t17]] X fun e w' => e = .returned (.bool fc) /\ Below X.heap.size X w')
 (hZC : ∀ X, Below W.heap.size W X -> Calls prog 177 #[.agg #[t12, .int .i64 wc, t14, t15, t16, t17]] X fun e w' => e = .returned (.bool zc) /\ Below X.heap.size X w')
 (hWS : ∀ X, Below W.heap.size W X -> Calls prog 175 #[.pointer (some ⟨k, 0, none⟩), .agg CS, so] X fun e w' => e = .returned (.int .i64 ws) /\ Below X.heap.size X w')
 (hTI : ∀ X b, Then8 k W X b -> Calls prog 178 #[.agg CS] X fun e w' => e = .returned (.bool ti) /\ Below X.heap.size X w') :
 Calls prog 164 #[.pointer (some ⟨k, 0, none⟩), .agg CS, so] W fun e w' => e = .returned (.tuple #[]) /\ Then8 k W w' ((bad || !(fv && (decide (wv = m.address) && (zc || (fc && decide (wc = 1)))))) || !ti) := by
 have hk := hC.lt;obtain ⟨W1, hW1, hb, hblk, hl1, f0, f1, f2, f3, f4, f5, f6, f7, f8, f9, f10, f11, f12, f13, f14, f15, f16, f17, f18, f19, f20, hM2, hI79, hCC, hROW, hone⟩ := z68 W k m sr sb su si wm bad hC 3 op rg wa wv wc t0 t2 t3 t4 t5 t6 t8 t9 t10 t11 t12 t14 t15 t16 t17 ti CS hCS;have HW := hid hW1;have HB := hid (zg hb hb.size);have HB1 := hid hb;have HM2 := hid hM2;have HTI := hid hTI;have HI79 := hid hI79;have HCC := hid hCC;have HROW := hid hROW;clear hM2 hI79 hCC hROW;have IFV := hid (fun d os => Calls.regrown_of (hFV _ (HB.out d os)));have IZC := hid (fun d os => Calls.regrown_of (hZC _ (HB.out d os)));have IFC := hid (fun d os => Calls.regrown_of (hFC _ (HB.out d os)));have d2 := (hb.cell (p := ⟨k, 2, none⟩) hk).trans hC.c2;have K29 := cell_regrown d2;obtain ⟨ad, had⟩ : ∃ z, m.address = z := ⟨_, rfl⟩;rw [had] at d2 K29 ⊢;clear d2;obtain ⟨g1, hg1⟩ : ∃ z : Bool, decide (wv = ad) = z := ⟨_, rfl⟩;rw [hg1];have bg1 : (wv == ad) = g1 := by rw [<- hg1]; exact Bool.beq_eq_decide_eq ..
 cases zc with
 | true =>
   rw [Bool.true_or];have HM := hid (show ∀ X, Below W1.heap.size W1 X -> Calls prog 135 #[.pointer (some ⟨k, 0, none⟩), .slice (some ⟨X.heap.size, 0, none⟩) 3 3] (X.alloc (.cells #[.bool fv, .bool g1, .bool true] 4)) fun e w' => e = .returned (.tuple #[]) /\ Then8 k W w' (bad || !(fv && (g1 && true))) /\ w'.heap[W.heap.size]? = some (.cells CS 92) from fun X hX => (must3 X k m sr sb su si wm bad (hC.later (hb.trans (hX.mono hb.size))) fv g1 true).mono fun e w' ⟨h1, h2⟩ => ⟨h1, hone X hX _ _ h2⟩);have K0 := cell_regrown f0;have K1 := cell_regrown f1;have K2 := cell_regrown f2;have K3 := cell_regrown f3;have K4 := cell_regrown f4;have K5 := cell_regrown f5;have K6 := cell_regrown f6;have K7 := cell_regrown f7;have K8 := cell_regrown f8;have K9 := cell_regrown f9;have K10 := cell_regrown f10;have K11 := cell_regrown f11;have K12 := cell_regrown f12;have K13 := cell_regrown f13;have K14 := cell_regrown f14;have K15 := cell_regrown f15;have K16 := cell_regrown f16;have K17 := cell_regrown f17;have K18 := cell_regrown f18;have K19 := cell_regrown f19;have K20 := cell_regrown f20;have f0w := f0;rw [hW1] at f0w;clear hb hC hW1 hone hTI hblk hl1 hFA hFV hFC hZC hWS hCS;go_enter Tryz.func164, Tryz.ntmps164
   go_wp2_with fail
   rw [<- HW.out];refine zi 28 (.pointer (some ⟨k, 0, none⟩)) (by kernel_rfl) (by kernel_rfl) (fun _ _ _ h => h) rfl (fun _ => rfl) ?_;simp only [List.take_succ_cons, List.take_zero, List.drop_succ_cons, List.drop_zero];repeat (first  | go_big_quiet_step (first | (with_reducible exact IFV.out _ _) | (with_reducible exact IZC.out _ _) | (with_reducible exact IFC.out _ _)) | quiet_step (first | (with_reducible exact IFV.out _ _) | (with_reducible exact IZC.out _ _) | (with_reducible exact IFC.out _ _)))
   refine wpQuiet_nil ?_;intro X hX;have hbX : Below W1.heap.size W1 X := by obtain ⟨p, rfl⟩ := hX; exact below_regrown _ _ _
   clear hX K0 f0 K1 f1 K2 f2 K3 f3 K4 f4 K5 f5 K6 f6 K7 f7 K8 f8 K9 f9 K10 f10 K11 f11 K12 f12 K13 f13 K14 f14 K15 f15 K16 f16 K17 f17 K18 f18 K19 f19 K20 f20
   go_wp2_with (first
    | (refine z1k rfl 92 _ rfl W.heap.size 0 rfl CS _ Tryz.underlying92 rfl HI79.out (HROW.out _ hblk5) ?_)
    | (go_at_call 135; first
      | ((with_reducible refine (HM2.out _ w5 w6 hT5 hb6).mono ?_); rintro e w7 ⟨rfl, hT7⟩)
      | ((with_reducible refine (HM.out X hbX).mono ?_); rintro e w5 ⟨rfl, hT5, hblk5⟩))
    | (go_at_call 178; (with_reducible refine (HTI.out w5 _ hT5).mono ?_); rintro e w6 ⟨rfl, hb6⟩))
   exact bodyPost_end (v := .tuple #[]) (by simp [results, Tryz.results164, go_sem]) rfl ⟨rfl, hT7⟩
 | false =>
   rw [Bool.false_or]
   cases fc with
   | false =>
     rw [Bool.false_and];have HM := hid (show ∀ X, Below W1.heap.size W1 X -> Calls prog 135 #[.pointer (some ⟨k, 0, none⟩), .slice (some ⟨X.heap.size, 0, none⟩) 3 3] (X.alloc (.cells #[.bool fv, .bool g1, .bool false] 4)) fun e w' => e = .returned (.tuple #[]) /\ Then8 k W w' (bad || !(fv && (g1 && false))) /\ w'.heap[W.heap.size]? = some (.cells CS 92) from fun X hX => (must3 X k m sr sb su si wm bad (hC.later (hb.trans (hX.mono hb.size))) fv g1 false).mono fun e w' ⟨h1, h2⟩ => ⟨h1, hone X hX _ _ h2⟩);have K0 := cell_regrown f0;have K1 := cell_regrown f1;have K2 := cell_regrown f2;have K3 := cell_regrown f3;have K4 := cell_regrown f4;have K5 := cell_regrown f5;have K6 := cell_regrown f6;have K7 := cell_regrown f7;have K8 := cell_regrown f8;have K9 := cell_regrown f9;have K10 := cell_regrown f10;have K11 := cell_regrown f11;have K12 := cell_regrown f12;have K13 := cell_regrown f13;have K14 := cell_regrown f14;have K15 := cell_regrown f15;have K16 := cell_regrown f16;have K17 := cell_regrown f17;have K18 := cell_regrown f18;have K19 := cell_regrown f19;have K20 := cell_regrown f20;have f0w := f0;rw [hW1] at f0w;clear hb hC hW1 hone hTI hblk hl1 hFA hFV hFC hZC hWS hCS;go_enter Tryz.func164, Tryz.ntmps164
     go_wp2_with fail
     rw [<- HW.out];refine zi 28 (.pointer (some ⟨k, 0, none⟩)) (by kernel_rfl) (by kernel_rfl) (fun _ _ _ h => h) rfl (fun _ => rfl) ?_;simp only [List.take_succ_cons, List.take_zero, List.drop_succ_cons, List.drop_zero];repeat (first  | go_big_quiet_step (first | (with_reducible exact IFV.out _ _) | (with_reducible exact IZC.out _ _) | (with_reducible exact IFC.out _ _)) | quiet_step (first | (with_reducible exact IFV.out _ _) | (with_reducible exact IZC.out _ _) | (with_reducible exact IFC.out _ _)))
     refine wpQuiet_nil ?_;intro X hX;have hbX : Below W1.heap.size W1 X := (by obtain ⟨p, rfl⟩ := hX; exact below_regrown _ _ _);clear hX K0 f0 K1 f1 K2 f2 K3 f3 K4 f4 K5 f5 K6 f6 K7 f7 K8 f8 K9 f9 K10 f10 K11 f11 K12 f12 K13 f13 K14 f14 K15 f15 K16 f16 K17 f17 K18 f18 K19 f19 K20 f20
     go_wp2_with (first
      | (refine z1k rfl 92 _ rfl W.heap.size 0 rfl CS _ Tryz.underlying92 rfl HI79.out (HROW.out _ hblk5) ?_)
      | (go_at_call 135; first
        | ((with_reducible refine (HM2.out _ w5 w6 hT5 hb6).mono ?_); rintro e w7 ⟨rfl, hT7⟩)
        | ((with_reducible refine (HM.out X hbX).mono ?_); rintro e w5 ⟨rfl, hT5, hblk5⟩))
      | (go_at_call 178; (with_reducible refine (HTI.out w5 _ hT5).mono ?_); rintro e w6 ⟨rfl, hb6⟩))
     exact bodyPost_end (v := .tuple #[]) (by simp [results, Tryz.results164, go_sem]) rfl ⟨rfl, hT7⟩
   | true =>
     rw [Bool.true_and];obtain ⟨g3, hg3⟩ : ∃ z : Bool, decide (wc = 1) = z := ⟨_, rfl⟩;rw [hg3];have bg3 : (wc == 1) = g3 := (by rw [<- hg3]; exact Bool.beq_eq_decide_eq ..);have HM := hid (show ∀ X, Below W1.heap.size W1 X -> Calls prog 135 #[.pointer (some ⟨k, 0, none⟩), .slice (some ⟨X.heap.size, 0, none⟩) 3 3] (X.alloc (.cells #[.bool fv, .bool g1, .bool g3] 4)) fun e w' => e = .returned (.tuple #[]) /\ Then8 k W w' (bad || !(fv && (g1 && g3))) /\ w'.heap[W.heap.size]? = some (.cells CS 92) from fun X hX => (must3 X k m sr sb su si wm bad (hC.later (hb.trans (hX.mono hb.size))) fv g1 g3).mono fun e w' ⟨h1, h2⟩ => ⟨h1, hone X hX _ _ h2⟩);have K0 := cell_regrown f0;have K1 := cell_regrown f1;have K2 := cell_regrown f2;have K3 := cell_regrown f3;have K4 := cell_regrown f4;have K5 := cell_regrown f5;have K6 := cell_regrown f6;have K7 := cell_regrown f7;have K8 := cell_regrown f8;have K9 := cell_regrown f9;have K10 := cell_regrown f10;have K11 := cell_regrown f11;have K12 := cell_regrown f12;have K13 := cell_regrown f13;have K14 := cell_regrown f14;have K15 := cell_regrown f15;have K16 := cell_regrown f16;have K17 := cell_regrown f17;have K18 := cell_regrown f18;have K19 := cell_regrown f19;have K20 := cell_regrown f20;have f0w := f0;rw [hW1] at f0w;clear hb hC hW1 hone hTI hblk hl1 hFA hFV hFC hZC hWS hCS;go_enter Tryz.func164, Tryz.ntmps164
     go_wp2_with fail
     rw [<- HW.out];refine zi 28 (.pointer (some ⟨k, 0, none⟩)) (by kernel_rfl) (by kernel_rfl) (fun _ _ _ h => h) rfl (fun _ => rfl) ?_;simp only [List.take_succ_cons, List.take_zero, List.drop_succ_cons, List.drop_zero];repeat (first  | go_big_quiet_step (first | (with_reducible exact IFV.out _ _) | (with_reducible exact IZC.out _ _) | (with_reducible exact IFC.out _ _)) | quiet_step (first | (with_reducible exact IFV.out _ _) | (with_reducible exact IZC.out _ _) | (with_reducible exact IFC.out _ _)))
     refine wpQuiet_nil ?_;intro X hX;have hbX : Below W1.heap.size W1 X := (by obtain ⟨p, rfl⟩ := hX; exact below_regrown _ _ _);clear hX K0 f0 K1 f1 K2 f2 K3 f3 K4 f4 K5 f5 K6 f6 K7 f7 K8 f8 K9 f9 K10 f10 K11 f11 K12 f12 K13 f13 K14 f14 K15 f15 K16 f16 K17 f17 K18 f18 K19 f19 K20 f20
     go_wp2_with (first
      | (refine z1k rfl 92 _ rfl W.heap.size 0 rfl CS _ Tryz.underlying92 rfl HI79.out (HROW.out _ hblk5) ?_)
      | (go_at_call 135; first
        | ((with_reducible refine (HM2.out _ w5 w6 hT5 hb6).mono ?_); rintro e w7 ⟨rfl, hT7⟩)
        | ((with_reducible refine (HM.out X hbX).mono ?_); rintro e w5 ⟨rfl, hT5, hblk5⟩))
      | (go_at_call 178; (with_reducible refine (HTI.out w5 _ hT5).mono ?_); rintro e w6 ⟨rfl, hb6⟩))
     exact bodyPost_end (v := .tuple #[]) (by simp [results, Tryz.results164, go_sem]) rfl ⟨rfl, hT7⟩
theorem zf7 (W : World) (k : Nat) (m : Mach) (sr sb su si wm : Value) (bad : Bool) (hC : ChkAt W k m sr sb su si wm bad) (op rg wa wv wc ws : Int) (t0 t2 t3 t4 t5 t6 t8 t9 t10 t11 t12 t14 t15 t16 t17 so : Value) (fa fv fc zc ti : Bool) (CS : Array Value) (hCS : CS = #[.int .u8 4, .int .i64 op, .int .i64 rg, t0, .int .i64 wa, t2, t3, t4, t5, t6, .int .i64 wv, t8, t9, t10, t11, t12, .int .i64 wc, t14, t15, t16, t17])
 (hFA : ∀ X, Below W.heap.size W X -> Calls prog 174 #[.pointer (some ⟨k, 0, none⟩), .agg #[t0, .int .i64 wa, t2, t3, t4, t5]] X fun e w' => e = .returned (.bool fa) /\ Below X.heap.size X w')
 (hFV : ∀ X, Below W.heap.size W X -> Calls prog 174 #[.pointer (some ⟨k, 0, none⟩), .agg #[t6, .int .i64 wv, t8, t9, t10, t11]] X fun e w' => e = .returned (.bool fv) /\ Below X.heap.size X w')
 (hFC : ∀ X, Below W.heap.size W X -> Calls prog 174 #[.pointer (some ⟨k, 0, none⟩), .agg #[t12, .int .i64 wc, t14, t15, t16, t17]] X fun e w' => e = .returned (.bool fc) /\ Below X.heap.size X w')
 (hZC : ∀ X, Below W.heap.size W X -> Calls prog 177 #[.agg #[t12, .int .i64 wc, t14, t15, t16, t17]] X fun e w' => e = .returned (.bool zc) /\ Below X.heap.size X w')
 (hWS : ∀ X, Below W.heap.size W X -> Calls prog 175 #[.pointer (some ⟨k, 0, none⟩), .agg CS, so] X fun e w' => e = .returned (.int .i64 ws) /\ Below X.heap.size X w')
 (hTI : ∀ X b, Then8 k W X b -> Calls prog 178 #[.agg CS] X fun e w' => e = .returned (.bool ti) /\ Below X.heap.size X w') :
 Calls prog 164 #[.pointer (some ⟨k, 0, none⟩), .agg CS, so] W fun e w' => e = .returned (.tuple #[]) /\ Then8 k W w' ((bad || !(fv)) || !ti) := by
 have hk := hC.lt;obtain ⟨W1, hW1, hb, hblk, hl1, f0, f1, f2, f3, f4, f5, f6, f7, f8, f9, f10, f11, f12, f13, f14, f15, f16, f17, f18, f19, f20, hM2, hI79, hCC, hROW, hone⟩ := z68 W k m sr sb su si wm bad hC 4 op rg wa wv wc t0 t2 t3 t4 t5 t6 t8 t9 t10 t11 t12 t14 t15 t16 t17 ti CS hCS;have HW := hid hW1;have HB := hid (zg hb hb.size);have HB1 := hid hb;have HM2 := hid hM2;have HTI := hid hTI;have HI79 := hid hI79;have HCC := hid hCC;have HROW := hid hROW;clear hM2 hI79 hCC hROW;have hm : ∀ X, Below W1.heap.size W1 X -> Calls prog 135 #[.pointer (some ⟨k, 0, none⟩), .slice (some ⟨X.heap.size, 0, none⟩) 1 1] (X.alloc (.cells #[.bool fv] 4)) fun e w' => e = .returned (.tuple #[]) /\ Then8 k W w' (bad || !fv) /\ w'.heap[W.heap.size]? = some (.cells CS 92) := fun X hX => (must1 X k m sr sb su si wm bad (hC.later (hb.trans (hX.mono hb.size))) fv).mono fun e w' ⟨h1, h2⟩ => ⟨h1, hone X hX _ _ h2⟩;have hfv := hFV W1 hb;rw [hW1] at hm hfv f9 f10 f11 f12 f13 f14;have HM := hid hm;have HFV := hid hfv;clear hm hfv hblk hC f1 f2 f3 f4 f5 f6 f7 f8 f15 f16 f17 f18 f19 f20;rw [hW1] at f0;clear hb hW1 hone hTI hl1 hFA hFV hFC hZC hWS hCS;go_enter Tryz.func164, Tryz.ntmps164
 go_wp2_with (first
  | (refine z1k rfl 92 _ rfl W.heap.size 0 rfl CS _ Tryz.underlying92 rfl HI79.out (HROW.out _ hblk5) ?_)
  | (go_at_call 135; first
    | ((with_reducible refine (HM2.out _ w5 w6 hT5 hb6).mono ?_); rintro e w7 ⟨rfl, hT7⟩)
    | ((with_reducible refine (HM.out w4 hb4).mono ?_); rintro e w5 ⟨rfl, hT5, hblk5⟩))
  | (go_at_call 178; (with_reducible refine (HTI.out w5 _ hT5).mono ?_); rintro e w6 ⟨rfl, hb6⟩)
  | (go_at_call 174; (with_reducible refine HFV.out.mono ?_); rintro e w4 ⟨rfl, hb4⟩))
 exact bodyPost_end (v := .tuple #[]) (by simp [results, Tryz.results164, go_sem]) rfl ⟨rfl, hT7⟩
theorem zf8 (W : World) (k : Nat) (m : Mach) (sr sb su si wm : Value) (bad : Bool) (hC : ChkAt W k m sr sb su si wm bad) (op rg wa wv wc ws kd : Int) (t0 t2 t3 t4 t5 t6 t8 t9 t10 t11 t12 t14 t15 t16 t17 so : Value) (fa fv fc zc ti : Bool) (n1 : (kd == 1) = false) (n2 : (kd == 2) = false) (n3 : (kd == 3) = false) (n4 : (kd == 4) = false) (CS : Array Value) (hCS : CS = #[.int .u8 kd, .int .i64 op, .int .i64 rg, t0, .int .i64 wa, t2, t3, t4, t5, t6, .int .i64 wv, t8, t9, t10, t11, t12, .int .i64 wc, t14, t15, t16, t17])
 (hFA : ∀ X, Below W.heap.size W X -> Calls prog 174 #[.pointer (some ⟨k, 0, none⟩), .agg #[t0, .int .i64 wa, t2, t3, t4, t5]] X fun e w' => e = .returned (.bool fa) /\ Below X.heap.size X w')
 (hFV : ∀ X, Below W.heap.size W X -> Calls prog 174 #[.pointer (some ⟨k, 0, none⟩), .agg #[t6, .int .i64 wv, t8, t9, t10, t11]] X fun e w' => e = .returned (.bool fv) /\ Below X.heap.size X w')
 (hFC : ∀ X, Below W.heap.size W X -> Calls prog 174 #[.pointer (some ⟨k, 0, none⟩), .agg #[t12, .int .i64 wc, t14, t15, t16, t17]] X fun e w' => e = .returned (.bool fc) /\ Below X.heap.size X w')
 (hZC : ∀ X, Below W.heap.size W X -> Calls prog 177 #[.agg #[t12, .int .i64 wc, t14, t15, t16, t17]] X fun e w' => e = .returned (.bool zc) /\ Below X.heap.size X w')
 (hWS : ∀ X, Below W.heap.size W X -> Calls prog 175 #[.pointer (some ⟨k, 0, none⟩), .agg CS, so] X fun e w' => e = .returned (.int .i64 ws) /\ Below X.heap.size X w')
 (hTI : ∀ X b, Then8 k W X b -> Calls prog 178 #[.agg CS] X fun e w' => e = .returned (.bool ti) /\ Below X.heap.size X w') :
 Calls prog 164 #[.pointer (some ⟨k, 0, none⟩), .agg CS, so] W fun e w' => e = .returned (.tuple #[]) /\ Then8 k W w' ((bad || !(false)) || !ti) := by
 have hk := hC.lt;obtain ⟨W1, hW1, hb, hblk, hl1, f0, f1, f2, f3, f4, f5, f6, f7, f8, f9, f10, f11, f12, f13, f14, f15, f16, f17, f18, f19, f20, hM2, hI79, hCC, hROW, hone⟩ := z68 W k m sr sb su si wm bad hC kd op rg wa wv wc t0 t2 t3 t4 t5 t6 t8 t9 t10 t11 t12 t14 t15 t16 t17 ti CS hCS;have HW := hid hW1;have HB := hid (zg hb hb.size);have HB1 := hid hb;have HM2 := hid hM2;have HTI := hid hTI;have HI79 := hid hI79;have HCC := hid hCC;have HROW := hid hROW;clear hM2 hI79 hCC hROW;have hm : Calls prog 135 #[.pointer (some ⟨k, 0, none⟩), .slice (some ⟨W1.heap.size, 0, none⟩) 1 1] (W1.alloc (.cells #[.bool false] 4)) fun e w' => e = .returned (.tuple #[]) /\ Then8 k W w' (bad || !false) /\ w'.heap[W.heap.size]? = some (.cells CS 92) := (must1 W1 k m sr sb su si wm bad (hC.later hb) false).mono fun e w' ⟨h1, h2⟩ => ⟨h1, hone W1 (Below.refl _ _) _ _ h2⟩;rw [show W1.heap.size = W.heap.size + 1 by rw [hW1]; simp, hW1] at hm;have HM := hid hm;clear hm hblk hC f1 f2 f3 f4 f5 f6 f7 f8 f9 f10 f11 f12 f13 f14 f15 f16 f17 f18 f19 f20;rw [hW1] at f0;clear hb hW1 hone hTI hl1 hFA hFV hFC hZC hWS hCS;go_enter Tryz.func164, Tryz.ntmps164
 go_wp2_with (first
  | (refine z1k rfl 92 _ rfl W.heap.size 0 rfl CS _ Tryz.underlying92 rfl HI79.out (HROW.out _ hblk5) ?_)
  | (go_at_call 135; first
    | ((with_reducible refine (HM2.out _ w5 w6 hT5 hb6).mono ?_); rintro e w7 ⟨rfl, hT7⟩)
    | ((with_reducible refine (HM.out).mono ?_); rintro e w5 ⟨rfl, hT5, hblk5⟩))
  | (go_at_call 178; (with_reducible refine (HTI.out w5 _ hT5).mono ?_); rintro e w6 ⟨rfl, hb6⟩))
 exact bodyPost_end (v := .tuple #[]) (by simp [results, Tryz.results164, go_sem]) rfl ⟨rfl, hT7⟩
def TmOk (t : Tm) : Prop := t.long = false /\ t.dp <= 9000
def z3v (f : MEff) : Prop := TmOk f.addr /\ TmOk f.value /\ TmOk f.cond
theorem z66 (W : World) (k : Nat) (m : Mach) (sr sb su si : Value) (B n : Nat) (D : DataW Unit) (K : ByteArray -> Int) (bad : Bool) (hC : ChkAt W k m sr sb su si (.map (some B)) bad)
 (hown : W.ownsMap prog 9 (plainElem prog 3) B n D) (hKD : z1o K D) (hT : zs W)
 (hR : zf 4 regE W sr m.regs) (hL : zf 2 z1m W sb m.banks) (ops : List MOper) (so : Value) (hO : zf 6 z1g W so ops) (hops : ∀ o ∈ ops, z4t m.regs m.banks o)
 (f : MEff) (cs : List Value) (hE : ∀ X, Below k W X -> effE X cs f) (hok : z3v f) :
 Calls prog 164 #[.pointer (some ⟨k, 0, none⟩), .agg cs.toArray, so] W fun e w' => e = .returned (.tuple #[]) /\ Then8 k W w' (bad || !(effR K m.address m.regs m.banks ops f)) := by
 have hk := hC.lt;have hEW := hE W (Below.refl _ _);have hTI : ∀ X b, Then8 k W X b -> Calls prog 178 #[.agg cs.toArray] X fun e w' => e = .returned (.bool (zas f)) /\ Below X.heap.size X w' := fun X b hX => zc0 X f cs (hE X (hX.below (Nat.le_refl _) (Nat.le_of_lt hk)))
 have hWS : ∀ X, Below W.heap.size W X -> Calls prog 175 #[.pointer (some ⟨k, 0, none⟩), .agg cs.toArray, so] X fun e w' => e = .returned (.int .i64 (z48 m.address m.regs m.banks ops f)) /\ Below X.heap.size X w' := fun X hX => z9x X k m.address m.regs m.banks sr sb (Nat.lt_of_lt_of_le hk hX.size) ((hX.cell hk).trans hC.c2) ((hX.cell hk).trans hC.c3) ((hX.cell hk).trans hC.c4) (hR.kept (fun cs x hx => regE.kept hx hX) hX) (hL.kept (fun cs x hx => z1m.kept hx hX) hX) ops so (hO.kept (fun cs x hx => z1g.kept hx hX) hX) hops f cs (hEW.kept hX)
 obtain ⟨sa, sv, sc, rfl, _, _, _, hfa, hsa, hfv, hsv, hfc, hsc⟩ := hEW
 have hF : ∀ (t : Tm) (s : Value), t.fit -> SubAt W W.heap.size s t.sub -> TmOk t -> ∀ X, Below W.heap.size W X -> Calls prog 174 #[.pointer (some ⟨k, 0, none⟩), .agg (Tm.cells t s).toArray] X fun e w' => e = .returned (.bool (z1z K m.address t)) /\ Below X.heap.size X w' := fun t s ht hs ho X hX => zfh K D hKD k B n m.address t s X (Nat.lt_of_lt_of_le hk hX.size) ((hX.cell hk).trans hC.c2) ((hX.cell hk).trans hC.c7) (z1u hown hX) (zr hs hX) ht (hT.below hX) ho.1 ho.2
 have hFA := hF f.addr sa hfa hsa hok.1;have hFV := hF f.value sv hfv hsv hok.2.1;have hFC := hF f.cond sc hfc hsc hok.2.2;have hZC : ∀ X, Below W.heap.size W X -> Calls prog 177 #[.agg (Tm.cells f.cond sc).toArray] X fun e w' => e = .returned (.bool (z2z f.cond)) /\ Below X.heap.size X w' := fun X hX => z5j X f.cond _ ⟨sc, rfl, hfc, zr hsc hX⟩;have hfin : ∀ (a b : Bool), z37 K m.address m.regs m.banks ops f = a -> ((bad || !a) || !(zas f)) = (bad || !(effR K m.address m.regs m.banks ops f)) := fun a b h => by unfold effR;rw [h];cases bad <;> cases a <;> cases zas f <;> rfl
 by_cases e1 : f.kind = 1
 ·rw [<- hfin (z1z K m.address f.value && decide (f.value.width = z48 m.address m.regs m.banks ops f)) true (by unfold z37; rw [if_pos e1])];refine zgr W k m sr sb su si _ bad hC f.oper f.reg f.addr.width f.value.width f.cond.width _ _ _ _ _ _ _ _ _ _ _ _ _ _ _ _ so _ _ _ _ _ _ ?_ hFA hFV hFC hZC hWS hTI;rw [e1];rfl
 ·by_cases e2 : f.kind = 2
  ·rw [<- hfin (z1z K m.address f.addr && (decide (f.addr.width = m.address) && (z1z K m.address f.value && z47 f.value.width))) true (by unfold z37; rw [if_neg e1, if_pos e2])];refine zgs W k m sr sb su si _ bad hC f.oper f.reg f.addr.width f.value.width f.cond.width _ _ _ _ _ _ _ _ _ _ _ _ _ _ _ _ so _ _ _ _ _ _ ?_ hFA hFV hFC hZC hWS hTI;rw [e2];rfl
  ·by_cases e3 : f.kind = 3
   ·rw [<- hfin (z1z K m.address f.value && (decide (f.value.width = m.address) && (z2z f.cond || (z1z K m.address f.cond && decide (f.cond.width = 1))))) true (by unfold z37; rw [if_neg e1, if_neg e2, if_pos e3])];refine zdg W k m sr sb su si _ bad hC f.oper f.reg f.addr.width f.value.width f.cond.width _ _ _ _ _ _ _ _ _ _ _ _ _ _ _ _ so _ _ _ _ _ _ ?_ hFA hFV hFC hZC hWS hTI;rw [e3];rfl
   ·by_cases e4 : f.kind = 4
    ·rw [<- hfin (z1z K m.address f.value) true (by unfold z37; rw [if_neg e1, if_neg e2, if_neg e3, if_pos e4])];refine zf7 W k m sr sb su si _ bad hC f.oper f.reg f.addr.width f.value.width f.cond.width _ _ _ _ _ _ _ _ _ _ _ _ _ _ _ _ so _ _ _ _ _ _ ?_ hFA hFV hFC hZC hWS hTI;rw [e4];rfl
    ·rw [<- hfin false true (by unfold z37; rw [if_neg e1, if_neg e2, if_neg e3, if_neg e4])];exact zf8 W k m sr sb su si _ bad hC f.oper f.reg f.addr.width f.value.width f.cond.width _ f.kind _ _ _ _ _ _ _ _ _ _ _ _ _ _ _ so _ _ _ _ _ (by simp; omega) (by simp; omega) (by simp; omega) (by simp; omega) _ rfl hFA hFV hFC hZC hWS hTI
end Go.Proofs.YtdmadnfadgggcaaGreatDoor
