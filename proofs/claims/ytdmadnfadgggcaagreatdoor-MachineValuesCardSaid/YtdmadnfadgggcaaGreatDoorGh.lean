import Derived.Test.YtdmadnfadgggcaaGreatDoorGg
import Derived.Laws.Tables
import Derived.Laws.Rows
import Derived.Laws.Cells
import Derived.RowKit
import Derived.Below
set_option linter.unusedVariables false
set_option linter.unusedSimpArgs false
set_option warningAsError false
set_option maxHeartbeats 4000000
open Go.Lib (hid)
open Go.Proofs.Tryz (prog)
noncomputable section
namespace Go.Proofs.YtdmadnfadgggcaaGreatDoor
open Go.RowKit Go.Instr Go.Sort
set_option maxRecDepth 100000
def z46 (R : List MReg) (x : MReg) : Bool := decide (1 <= x.width /\ x.width <= 64) && (z2v x || z53 R x)
def z2h (R : List MReg) : Bool := (decide (0 < R.length) && zq [] (R.map fun x => x.name)) && R.all (z46 R)
theorem z7w (W : World) (k : Nat) (m : Mach) (sr sb su si wm : Value) (bad : Bool) (hC : ChkAt W k m sr sb su si wm bad) (hR : ∀ X, Below k W X -> zf 4 regE X sr m.regs) (hlen : m.regs.length <= 1000) :
 Calls prog 110 #[.pointer (some ⟨k, 0, none⟩)] W fun e w' => e = .returned (.tuple #[]) /\ Then8 k W w' (bad || !(z2h m.regs)) := by
 have hk := hC.lt;have HRW := hid hR;obtain ⟨A, c, rfl, hn1, hn2, hn3, _⟩ := hR W (Below.refl _ _);obtain ⟨R, hRR⟩ : ∃ R, m.regs = R := ⟨_, rfl⟩;rw [hRR] at HRW hlen hn1 hn2 hC ⊢;obtain ⟨n, hn⟩ : ∃ n, R.length = n := ⟨_, rfl⟩;have HN := hid hn;have hn4 : n <= 9223372036854775807 := by omega
 clear hn3;rw [hn] at HRW hn1 hn2 hC;have HC := hid hC;have c3 := hC.c3;have K3 := cell_regrown c3;have hsz : ∀ x, x ∈ R -> x.name.size <= maxLen := fun x hx => by obtain ⟨i, hi⟩ := List.mem_iff_getElem?.1 hx;obtain ⟨A', c', _, _, _, _, hall⟩ := HRW.out W (Below.refl _ _);obtain ⟨b, o, cs, _, _, _, _, hE⟩ := hall i x hi;exact hE.2.1
 obtain ⟨q, hq⟩ : ∃ q, zq [] (R.map fun x => x.name) = q := ⟨_, rfl⟩;have iN : ∀ d os, Calls prog 138 #[.slice A n c, .func (.func 139) #[] #[]] (grow (redrawn W d) os) fun e w'' => e = .returned (.bool q) /\ ∃ p : Regrown, w'' = grow (redrawn W p.d) p.os := fun d os => Calls.regrown_of (by rw [<- hq];exact zea _ R _ (HRW.out _ ((below_regrown W d os).mono (Nat.le_of_lt hk))) hlen _ z7y (fun x => x.name) hsz (zc9 _ _))
 have IN := hid iN;obtain ⟨b0, hb0⟩ : ∃ b0, (bad || !(decide (0 < n) && q)) = b0 := ⟨_, rfl⟩
 have HM := hid (show ∀ X, Below W.heap.size W X -> Calls prog 135 #[.pointer (some ⟨k, 0, none⟩), .slice (some ⟨X.heap.size, 0, none⟩) 2 2] (X.alloc (.cells #[.bool (decide (0 < n)), .bool q] 4)) fun e w' => e = .returned (.tuple #[]) /\ Then8 k W w' b0 /\ w'.cell? ⟨k, 3, none⟩ = some (.slice A n c) from fun X hX =>
  (must2 X k m _ sb su si wm bad (HC.out.later hX) _ _).mono fun e w' ⟨h1, h2⟩ => by rw [hb0] at h2;have t := (Then8.grown hX hk HC.out.c8 HC.out.fz).trans h2;exact ⟨h1, t, (t.chk HC.out).c3⟩)
 obtain ⟨r, hr⟩ : ∃ r, (bad || !(z2h R)) = r := ⟨_, rfl⟩;have HG := hid (show (b0 || !((R.drop 0).all (z46 R))) = r by rw [<- hr, <- hb0, List.drop_zero];unfold z2h;rw [hq, hn];cases bad <;> cases decide (0 < n) <;> cases q <;> simp)
 rw [hr];clear hC hR hlen hsz iN hq hb0 hr hRR hn;go_enter Tryz.func110, Tryz.ntmps110
 go_wp2_with fail
 refine zi 13 (.pointer (some ⟨k, 0, none⟩)) (by kernel_rfl) (by kernel_rfl) (fun _ _ _ h => h) rfl (fun _ => rfl) ?_;simp only [List.take_succ_cons, List.take_zero, List.drop_succ_cons, List.drop_zero];repeat (first | go_big_quiet_step ((with_reducible exact IN.out _ _)) | quiet_step ((with_reducible exact IN.out _ _)))
 refine wpQuiet_nil ?_;intro X hX;have hbX : Below W.heap.size W X := by obtain ⟨p, rfl⟩ := hX; exact below_regrown _ _ _
 clear hX;go_wp2_with (go_at_call 135; (with_reducible refine (HM.out X hbX).mono ?_); rintro e w5 ⟨rfl, hT, g3⟩)
 have HB0 := hid hT;clear hT hbX K3;go_loopw [26] (fun v wr => ∃ i : Nat, v = .int .i64 i /\ i <= n /\ Hid (∃ b, Then8 k W wr b /\ (b || !((R.drop i).all (z46 R))) = r)) (fun v _ => n - (intOf v).toNat)
 case atStart => exact ⟨0, rfl, Nat.zero_le _, hid ⟨b0, HB0.out, HG.out⟩⟩
 case round =>
  obtain ⟨i, rfl, hi, HI⟩ := hrel;obtain ⟨bi, hT, hbi⟩ := HI.out;by_cases hlt : i < n
  ·obtain ⟨x, hx⟩ : ∃ x, R[i]? = some x := ⟨_, List.getElem?_eq_getElem (by rw [HN.out]; exact hlt)⟩;have hbk := hT.below (Nat.le_refl k) (Nat.le_of_lt hk);obtain ⟨A', c', e1, _, _, _, hall⟩ := HRW.out wr hbk;obtain ⟨b, o, cs, e2, hb, hcl, hcell, hE⟩ := hall i x hx;obtain ⟨rfl, rfl⟩ : A = A' /\ c = c' := by cases e1; exact ⟨rfl, rfl⟩
   subst e2;have HE := hid hE;obtain ⟨rfl, _⟩ := hE;have p0 : wr.cell? ⟨b, o + i * 4, none⟩ = some (.string x.name) := by simpa using hcell 0 _ rfl
   have p1 : wr.cell? ⟨b, o + i * 4 + 1, none⟩ = some (.int .i64 x.width) := hcell 1 _ rfl;have p2 : wr.cell? ⟨b, o + i * 4 + 2, none⟩ = some (.int .i64 x.par) := hcell 2 _ rfl;have p3 : wr.cell? ⟨b, o + i * 4 + 3, none⟩ = some (.int .i64 x.low) := hcell 3 _ rfl;have hCw := hT.chk HC.out;have hkw := hCw.lt;obtain ⟨W1, hW1⟩ : ∃ W1, W1 = wr.alloc (.cells #[.string x.name, .int .i64 x.width, .int .i64 x.par, .int .i64 x.low] 96) := ⟨_, rfl⟩;have HW := hid hW1;have hb1 : Below wr.heap.size wr W1 := by rw [hW1]; exact (Below.refl _ _).alloc (Nat.le_refl _) _
   obtain ⟨f0, f1, f2, f3⟩ := z9o wr x _ rfl;rw [<- hW1] at f0 f1 f2 f3;have F0 := cell_regrown f0;have F1 := cell_regrown f1;have F2 := cell_regrown f2;have F3 := cell_regrown f3;have hbX : ∀ X, Below W1.heap.size W1 X -> Below wr.heap.size wr X := fun X hX => hb1.trans (hX.mono hb1.size);have hWX : ∀ X, Below W1.heap.size W1 X -> Below k W X := fun X hX => hbk.trans ((hbX X hX).mono (Nat.le_of_lt hkw));obtain ⟨g, hg⟩ : ∃ g, decide (1 <= x.width /\ x.width <= 64) = g := ⟨_, rfl⟩;obtain ⟨q, hq⟩ : ∃ q, z2v x = q := ⟨_, rfl⟩;obtain ⟨t, ht⟩ : ∃ t, z53 R x = t := ⟨_, rfl⟩;have iI : ∀ d os, Calls prog 137 #[.int .i64 x.width, .int .i64 1, .int .i64 64] (grow (redrawn W1 d) os) fun e w'' => e = .returned (.bool g) /\ ∃ p : Regrown, w'' = grow (redrawn W1 p.d) p.os := fun d os => zh (by rw [<- hg]; exact z2p _ _ _ _);have II := hid iI;have iR : ∀ d os, Calls prog 84 #[.agg #[.string x.name, .int .i64 x.width, .int .i64 x.par, .int .i64 x.low]] (grow (redrawn W1 d) os) fun e w'' => e = .returned (.bool q) /\ ∃ p : Regrown, w'' = grow (redrawn W1 p.d) p.os := fun d os => Calls.regrown_of (by rw [<- hq]; exact z4d W _ x [.string x.name, .int .i64 x.width, .int .i64 x.par, .int .i64 x.low] HE.out);have IR := hid iR;have iP : ∀ d os, Calls prog 140 #[.pointer (some ⟨k, 0, none⟩), .agg #[.string x.name, .int .i64 x.width, .int .i64 x.par, .int .i64 x.low]] (grow (redrawn W1 d) os) fun e w'' => e = .returned (.bool t) /\ ∃ p : Regrown, w'' = grow (redrawn W1 p.d) p.os := fun d os => Calls.regrown_of (by rw [<- ht];have hX := below_regrown W1 d os;have hcx := hCw.later (hbX _ hX);exact zbz _ k R _ hcx.lt hcx.c3 (HRW.out _ (hWX _ hX)) x [.string x.name, .int .i64 x.width, .int .i64 x.par, .int .i64 x.low] HE.out)
   have IP := hid iP
   have IM := hid (show ∀ (y : Bool) X, Below W1.heap.size W1 X -> Calls prog 135 #[.pointer (some ⟨k, 0, none⟩), .slice (some ⟨X.heap.size, 0, none⟩) 2 2] (X.alloc (.cells #[.bool g, .bool y] 4)) fun e w' => e = .returned (.tuple #[]) /\ Then8 k W w' (bi || !(g && y)) from fun y X hX =>
    (must2 X k m _ sb su si wm bi (hCw.later (hbX X hX)) _ _).mono fun e w' ⟨h1, h2⟩ => ⟨h1, hT.trans ((Then8.grown (hbX X hX) hkw hCw.c8 hCw.fz).trans h2)⟩)
   have HD := hid (show (bi || !((g && (q || t)) && (R.drop (i + 1)).all (z46 R))) = r by
    rw [<- hbi];have hd : R.drop i = x :: R.drop (i + 1) := by
     rw [List.drop_eq_getElem_cons (by rw [HN.out]; exact hlt)]
     congr 1
     exact Option.some.inj ((List.getElem?_eq_getElem _).symm.trans hx)
    rw [hd, List.all_cons, show z46 R x = (g && (q || t)) by unfold z46; rw [hg, hq, ht]])
   have HLT := hid hlt;clear iI iR iP hg hq ht hbi hT hCw hbk hbX hWX hall hcell hcl hx HI e1 HC hb1 hW1;obtain ⟨xn, hxn⟩ : ∃ z, x.name = z := ⟨_, rfl⟩;obtain ⟨xw, hxw⟩ : ∃ z, x.width = z := ⟨_, rfl⟩;obtain ⟨xp, hxp⟩ : ∃ z, x.par = z := ⟨_, rfl⟩;obtain ⟨xl, hxl⟩ : ∃ z, x.low = z := ⟨_, rfl⟩;rw [hxn] at p0 f0 F0 HW IR IP;rw [hxw] at p1 f1 F1 HW II IR IP;rw [hxp] at p2 f2 F2 HW IR IP;rw [hxl] at p3 f3 F3 HW IR IP;clear hxn hxw hxp hxl HE
   cases q with
   | true =>
     go_wp2_with fail
     rw [<- HW.out];refine zi 10 (.pointer (some ⟨k, 0, none⟩)) (by kernel_rfl) (by kernel_rfl) (fun _ _ _ h => h) rfl (fun _ => rfl) ?_;simp only [List.take_succ_cons, List.take_zero, List.drop_succ_cons, List.drop_zero];repeat (first | go_big_quiet_step (first | (with_reducible exact II.out _ _) | (with_reducible exact IR.out _ _) | (with_reducible exact IP.out _ _)) | quiet_step (first | (with_reducible exact II.out _ _) | (with_reducible exact IR.out _ _) | (with_reducible exact IP.out _ _)))
     refine wpQuiet_nil ?_;intro X hX;have hbX : Below W1.heap.size W1 X := (by obtain ⟨p, rfl⟩ := hX; exact below_regrown _ _ _);clear hX F0 F1 F2 F3 p0 p1 p2 p3 f0 f1 f2 f3;go_wp2_with (go_at_call 135; (with_reducible refine (IM.out _ X hbX).mono ?_); rintro e w5 ⟨rfl, hT⟩)
     go_roundw
     case rel => exact ⟨i + 1, by first | rfl | go_num | (congr 1), by have := HLT.out; omega, hid ⟨_, hT, by rw [<- HD.out]; cases bi <;> cases g <;> simp⟩⟩
     case measure => simp only [intOf]; have := HLT.out; omega
   | false =>
     go_wp2_with fail
     rw [<- HW.out];refine zi 10 (.pointer (some ⟨k, 0, none⟩)) (by kernel_rfl) (by kernel_rfl) (fun _ _ _ h => h) rfl (fun _ => rfl) ?_;simp only [List.take_succ_cons, List.take_zero, List.drop_succ_cons, List.drop_zero];repeat (first | go_big_quiet_step (first | (with_reducible exact II.out _ _) | (with_reducible exact IR.out _ _) | (with_reducible exact IP.out _ _)) | quiet_step (first | (with_reducible exact II.out _ _) | (with_reducible exact IR.out _ _) | (with_reducible exact IP.out _ _)))
     refine wpQuiet_nil ?_;intro X hX;have hbX : Below W1.heap.size W1 X := (by obtain ⟨p, rfl⟩ := hX; exact below_regrown _ _ _);clear hX F0 F1 F2 F3 p0 p1 p2 p3 f0 f1 f2 f3;go_wp2_with (go_at_call 135; (with_reducible refine (IM.out _ X hbX).mono ?_); rintro e w5 ⟨rfl, hT⟩)
     go_roundw
     case rel => exact ⟨i + 1, by first | rfl | go_num | (congr 1), by have := HLT.out; omega, hid ⟨_, hT, by rw [<- HD.out]; cases bi <;> cases g <;> simp⟩⟩
     case measure => simp only [intOf]; have := HLT.out; omega
  ·obtain rfl : i = n := by omega
   rw [List.drop_eq_nil_of_le (by rw [HN.out]; exact Nat.le_refl _)] at hbi;obtain rfl : bi = r := by simpa using hbi
   go_wp2
   exact bodyPost_end (v := .tuple #[]) (by simp [results, Tryz.results110, go_sem]) rfl ⟨rfl, hT⟩
def zx (R : List MReg) (z : Int) : Int := match R[z.toNat]? with | some y => y.width | none => 0
def z1n (R : List MReg) (f : Int) : List Int -> List Int -> Bool
 | _, [] => true
 | met, z :: l => (decide (0 <= z /\ z < (R.length : Int)) && (!(decide (z ∈ met)) && decide (zx R z = zx R f))) && z1n R f (met ++ [z]) l
def z7d (R : List MReg) (L : List Int) : Bool := z1n R (L.headD 0) [] L
def F64 : Array Value := Array.replicate 64 (.bool false)
theorem falses (w : World) (j : Nat) (hj : j < 64) (t : TypeId) : (w.alloc (.cells F64 t)).cell? ⟨w.heap.size, j, none⟩ = some (.bool false) := by simp only [World.cell?];rw [heap_alloc_new];simp [hj, F64]
theorem za5 (w : World) (j : Nat) (t : TypeId) : (w.alloc (.cells F64 t)).frozen? ⟨w.heap.size, j, none⟩ = false := by simp only [World.frozen?];rw [heap_alloc_new];simp
theorem zcx (w : World) : (Instr.build 206 #[]).run prog w = .ok (.agg F64) w := run_build w 206 #[] F64 (by kernel_rfl)
theorem zcw (w : World) : (Instr.alloc 206 true (.tuple #[])).run prog w = .ok (.pointer (some ⟨w.heap.size, 0, none⟩)) (w.alloc (.cells F64 206)) := by kernel_rfl
theorem zar (X : World) (g : Nat) (c : Array Value) (t : TypeId) (fr : Nat × Nat) (hg : X.heap[g]? = some (.cells c t fr)) : X.setRow g c = X := by
 have hv := (Array.getElem?_eq_some_iff.1 hg).2;have hh : (X.setRow g c).heap = X.heap := by
  unfold World.setRow;apply Array.ext
  ·simp
  ·intro i h1 h2;simp only [Array.getElem_modify];split
   ·rename_i hk;subst hk;simp [hv]
   ·rfl
 have e : X.setRow g c = { X with heap := (X.setRow g c).heap } := rfl;rw [e, hh]
attribute [irreducible] F64
theorem zcy (w : World) : (Instr.storeAt 206 (.pointer (some ⟨w.heap.size, 0, none⟩)) (.agg F64)).run prog (w.alloc (.cells F64 206)) = .ok () (w.alloc (.cells F64 206)) := by have h := run_storeVar_row (P := prog) (w.alloc (.cells F64 206)) w.heap.size 206 206 F64 F64 (heap_alloc_new w _) (by kernel_rfl) rfl (by kernel_rfl);rw [zar _ _ _ _ _ (heap_alloc_new w _)] at h;exact h
theorem zbj {ops : Array Oper} {rest : List Oper} {o : Oper} {a : Act} {w : World} {Q : Exit -> Act -> World -> Prop} (hg : o.guard = none) (ho : o.op = .build 206 #[])
 (h : wpList prog ops Q rest (a.put o.dst (.agg F64)) w) : wpList prog ops Q (o :: rest) a w :=
 wpList_plain hg fun _ hK => by
  have hb : (Instr.build 206 ((#[] : Array (Nat × Operand)).map fun (i, x) => (i, a.eval x))).run prog w = .ok (.agg F64) w := by rw [Array.map_empty]; exact zcx w
  unfold Oper.wp execOp;simp only [ho, Sem.run_bind, hb, Result.andThen_ok];exact hK _ _ h
theorem zbi {ops : Array Oper} {rest : List Oper} {o : Oper} {a : Act} {w : World} {Q : Exit -> Act -> World -> Prop} (hg : o.guard = none) (ho : o.op = .alloc 206)
 (h : wpList prog ops Q rest (a.put o.dst (.pointer (some ⟨w.heap.size, 0, none⟩))) (w.alloc (.cells F64 206))) : wpList prog ops Q (o :: rest) a w :=
 wpList_plain hg fun _ hK => by unfold Oper.wp execOp;simp only [ho, Sem.run_bind, zcw w, Result.andThen_ok];exact hK _ _ h
theorem zbk {ops : Array Oper} {rest : List Oper} {o : Oper} {a : Act} {w : World} {Q : Exit -> Act -> World -> Prop} (hg : o.guard = none) (x y : Operand) (ho : o.op = .store 206 x y)
 (hx : a.eval x = .pointer (some ⟨w.heap.size, 0, none⟩)) (hy : a.eval y = .agg F64)
 (h : wpList prog ops Q rest (a.put o.dst undef) (w.alloc (.cells F64 206))) : wpList prog ops Q (o :: rest) a (w.alloc (.cells F64 206)) :=
 wpList_plain hg fun _ hK => by unfold Oper.wp execOp;simp only [ho, hx, hy, Sem.run_bind, zcy w, Result.andThen_ok];exact hK _ _ h
theorem z8n (W : World) (k : Nat) (R : List MReg) (sr : Value) (hk : k < W.heap.size) (c3 : W.cell? ⟨k, 3, none⟩ = some sr) (hR : zf 4 regE W sr R) (h64 : R.length <= 64) (L : List Int) (v : Value) (hL : zf 1 intE W v L) :
 Calls prog 143 #[.pointer (some ⟨k, 0, none⟩), v] W fun e w' => e = .returned (.bool (z7d R L)) /\ Below W.heap.size W w' := by
 have HRR := hid hR;have HLL := hid hL;obtain ⟨A, c, rfl, hn1, hn2, hn3, _⟩ := hR;obtain ⟨A2, c2, rfl, hm1, hm2, hm3, _⟩ := hL;obtain ⟨n, hn⟩ : ∃ n, R.length = n := ⟨_, rfl⟩;obtain ⟨m, hm⟩ : ∃ m, L.length = m := ⟨_, rfl⟩;have HN := hid hn;have HM := hid hm;rw [hn] at HRR c3 hn1 hn2 h64;rw [hm] at HLL hm1 hm2 ⊢;obtain ⟨r, hr⟩ : ∃ r, z7d R L = r := ⟨_, rfl⟩;have HR0 := hid (show z1n R (L.headD 0) (L.take 0) (L.drop 0) = r from hr);rw [hr];have HC3 := hid c3;have hmx : maxLen <= 9223372036854775807 := by decide
 have hm4 : m <= 9223372036854775807 := Nat.le_trans hm1 hmx;have HK := hid hk;clear hn hm hr hn1 hn2 hn3 hm1 hm3 c3 hmx hk;go_enter Tryz.func143, Tryz.ntmps143
 go_wp2_with (first | (refine zbj rfl rfl ?_) | (refine zbi rfl rfl ?_) | (refine zbk rfl _ _ rfl rfl rfl ?_))
 have hB0 : Below W.heap.size W (W.alloc (.cells F64 206)) := (Below.refl _ _).alloc (Nat.le_refl _) _;obtain ⟨f0, hf0⟩ : ∃ f0, L.headD 0 = f0 := ⟨_, rfl⟩;rw [hf0] at HR0;have HF0 := hid hf0
 have HST := hid (show Below W.heap.size W (W.alloc (.cells F64 206)) /\ W.heap.size < (W.alloc (.cells F64 206)).heap.size /\ z1n R f0 (L.take 0) (L.drop 0) = r /\ (0 < 0 -> 0 <= f0 /\ f0 < (n : Int)) /\ ∀ j : Nat, j < 64 -> (W.alloc (.cells F64 206)).cell? ⟨W.heap.size, j, none⟩ = some (.bool (decide ((j : Int) ∈ L.take 0))) /\ (W.alloc (.cells F64 206)).frozen? ⟨W.heap.size, j, none⟩ = false from
  ⟨hB0, by simp, HR0.out, fun h => absurd h (Nat.lt_irrefl 0), fun j hj => ⟨by rw [falses W j hj]; simp, za5 W j _⟩⟩)
 obtain ⟨B, hB⟩ : ∃ B, W.heap.size = B := ⟨_, rfl⟩;have HBB := hid hB;rw [hB] at HST;rw [hB];clear hB hB0 hf0;go_loopw [11] (fun v wr => ∃ i : Nat, v = .int .i64 i /\ i <= m /\ Hid (Below B W wr /\ B < wr.heap.size /\ z1n R f0 (L.take i) (L.drop i) = r /\ (0 < i -> 0 <= f0 /\ f0 < (n : Int)) /\ ∀ j : Nat, j < 64 -> wr.cell? ⟨B, j, none⟩ = some (.bool (decide ((j : Int) ∈ L.take i))) /\ wr.frozen? ⟨B, j, none⟩ = false)) (fun v _ => m - (intOf v).toNat)
 case atStart => exact ⟨0, rfl, Nat.zero_le _, HST⟩
 case round =>
  obtain ⟨i, rfl, hi, HI⟩ := hrel;obtain ⟨hbw, hBw, hgo, hf, hmet⟩ := HI.out;by_cases hlt : i < m
  ·obtain ⟨z, hz⟩ : ∃ z, L[i]? = some z := ⟨_, List.getElem?_eq_getElem (by rw [HM.out]; exact hlt)⟩;have hbW : Below W.heap.size W wr := by rw [HBB.out]; exact hbw
   have hkw : k < wr.heap.size := Nat.lt_of_lt_of_le HK.out hbW.size;have hRw := HRR.out.kept (fun cs x hx => regE.kept hx hbW) hbW;have hLw := HLL.out.kept (fun cs x hx => intE.kept hx hbW) hbW;have c3 : wr.cell? ⟨k, 3, none⟩ = some (.slice A n c) := (hbW.cell (p := ⟨k, 3, none⟩) HK.out).trans HC3.out;obtain ⟨A', c', e1, _, _, _, hall⟩ := hLw;obtain ⟨b2, o2, cs, e2, hb2, hcl, hcell, hE⟩ := hall i z hz;obtain ⟨rfl, rfl⟩ : A2 = A' /\ c2 = c' := by cases e1; exact ⟨rfl, rfl⟩
   subst e2;obtain ⟨rfl, hz1, hz2⟩ := hE;have p0 : wr.cell? ⟨b2, o2 + i, none⟩ = some (.int .i64 z) := by simpa using hcell 0 _ rfl
   have hd : L.drop i = z :: L.drop (i + 1) := by
    rw [List.drop_eq_getElem_cons (by rw [HM.out]; exact hlt)]
    congr 1
    exact Option.some.inj ((List.getElem?_eq_getElem _).symm.trans hz)
   have htk : L.take (i + 1) = L.take i ++ [z] := by rw [List.take_add_one, hz]; rfl
   have HLT := hid hlt;have K3 := cell_regrown c3;have HBW := hid (And.intro hbw hBw);by_cases hv : 0 <= z /\ z < (n : Int)
   ·obtain ⟨P, rfl⟩ : ∃ P : Nat, z = P := ⟨z.toNat, by omega⟩;have hPn : P < n := (by omega);have hP64 : (P : Int) < 64 := (by omega);have hP0 : (0 : Int) <= (P : Int) := (by omega);have hPi : (P : Int) < (n : Int) := (by omega);have iI : ∀ d os, Calls prog 85 #[.int .i64 P, .slice A n c] (grow (redrawn wr d) os) fun e w'' => e = .returned (.bool true) /\ ∃ p : Regrown, w'' = grow (redrawn wr p.d) p.os := fun d os => zh (by
     have h := z2m P A n c (grow (redrawn wr d) os)
     rwa [show decide (0 <= (P : Int) /\ (P : Int) < (n : Int)) = true by simpa using hv] at h)
    have II := hid iI;obtain ⟨hmc, hmf⟩ := hmet P (by omega);have KM := cell_regrown hmc;by_cases hin : (P : Int) ∈ L.take i
    ·have hrf : r = false := by
      rw [<- hgo, hd];unfold z1n;simp [hin]
     have HRF := hid hrf;rw [show decide ((P : Int) ∈ L.take i) = true by simp [hin]] at hmc KM;clear iI hv hrf hd htk hcell hcl hall hz e1 hRw hgo hf hmet HI HST HR0 hbw hBw hbW hb2 hin hmf;go_wp2_with fail
     refine wp_region_quiet_below (by kernel_rfl) (by kernel_rfl) ?_;repeat (first | go_big_quiet_step ((with_reducible exact II.out _ _)) | quiet_step ((with_reducible exact II.out _ _)))
     refine wpQuiet_nil ?_;intro G hG;have hbG : Below B W G := (by obtain ⟨p, rfl⟩ := hG; exact zg HBW.out.1 (Nat.le_of_lt HBW.out.2) _ _);clear hG;go_wp2
     go_ret
     exact ⟨by rw [HRF.out]; rfl, by rw [HBB.out]; exact hbG⟩
    ·have hne : L ≠ [] := fun e => by rw [e] at hz; simp at hz
     have hl0 : L[0]? = some f0 := by
      have h := HF0.out
      cases L with
      | nil => exact absurd rfl hne
      | cons a l => simp at h ⊢; exact h
     have hfv : 0 <= f0 /\ f0 < (n : Int) := by
      rcases Nat.eq_zero_or_pos i with h | h
      ·subst h;rw [hl0] at hz;obtain rfl := Option.some.inj hz;exact hv
      ·exact hf h
     obtain ⟨F, hF⟩ : ∃ F : Nat, f0 = F := ⟨f0.toNat, by omega⟩;have hFn : F < n := (by omega);have hF0 : (0 : Int) <= (F : Int) := (by omega);have hFi : (F : Int) < (n : Int) := (by omega);obtain ⟨b3, o3, cs3, e3, _, _, hcell3, hE3⟩ := hall 0 f0 hl0;obtain ⟨rfl, rfl⟩ : b2 = b3 /\ o2 = o3 := by cases e3; exact ⟨rfl, rfl⟩
     obtain ⟨rfl, _, _⟩ := hE3;have q0 : wr.cell? ⟨b2, o2, none⟩ = some (.int .i64 F) := (by rw [<- hF]; simpa using hcell3 0 _ rfl);obtain ⟨y, hy⟩ : ∃ y, R[P]? = some y := ⟨_, List.getElem?_eq_getElem (by rw [HN.out]; exact hPn)⟩;obtain ⟨y0, hy0⟩ : ∃ y, R[F]? = some y := ⟨_, List.getElem?_eq_getElem (by rw [HN.out]; exact hFn)⟩;obtain ⟨A4, c4, e4, _, _, _, hallR⟩ := hRw;obtain ⟨b, o, cs4, e5, hb, _, hcell4, hE4⟩ := hallR P y hy;obtain ⟨b6, o6, cs6, e6, _, _, hcell6, hE6⟩ := hallR F y0 hy0;obtain ⟨rfl, rfl⟩ : A = A4 /\ c = c4 := by cases e4; exact ⟨rfl, rfl⟩
     subst e5;obtain ⟨rfl, rfl⟩ : b = b6 /\ o = o6 := by cases e6; exact ⟨rfl, rfl⟩
     obtain ⟨rfl, _⟩ := hE4;obtain ⟨rfl, _⟩ := hE6;have r1 : wr.cell? ⟨b, o + P * 4 + 1, none⟩ = some (.int .i64 y.width) := hcell4 1 _ rfl;have r2 : wr.cell? ⟨b, o + F * 4 + 1, none⟩ = some (.int .i64 y0.width) := hcell6 1 _ rfl;have hw1 : zx R P = y.width := (by unfold zx; rw [show (P : Int).toNat = P by simp, hy]);have hw2 : zx R f0 = y0.width := (by unfold zx; rw [hF, show (F : Int).toNat = F by simp, hy0]);have HGO := hid (show (decide (y.width = y0.width) && z1n R f0 (L.take (i + 1)) (L.drop (i + 1))) = r by
      rw [<- hgo, hd, htk]
      conv => rhs; unfold z1n
      rw [HN.out, hw1, hw2];simp [hin, hPn])
     obtain ⟨yw, hyw⟩ : ∃ z, y.width = z := ⟨_, rfl⟩;obtain ⟨zw, hzw⟩ : ∃ z, y0.width = z := ⟨_, rfl⟩;rw [hyw] at r1 HGO;rw [hzw] at r2 HGO;have K0 := cell_regrown p0;have KQ := cell_regrown q0;have KR1 := cell_regrown r1;have KR2 := cell_regrown r2;have HME := hid hmet;have HTK := hid htk;have HFV := hid hfv;have HIN := hid hin;have HMC := hid (And.intro hmc hmf);have hm0 : (0 : Int) < (m : Int) := (by omega);rw [show decide ((P : Int) ∈ L.take i) = false by simp [hin]] at hmc KM;clear iI hv hd htk hcell hcl hall hz e1 hgo hf hmet HI HST HR0 hbw hBw hbW hb2 hin hallR hcell4 hcell6 hcell3 e3 e4 e6 hy hy0 hw1 hw2 hyw hzw hl0 hne hfv hF hb;by_cases hq : yw = zw
     ·subst hq;go_wp2_with fail
      refine wp_region_quiet_below (by kernel_rfl) (by kernel_rfl) ?_;repeat (first | go_big_quiet_step ((with_reducible exact II.out _ _)) | quiet_step ((with_reducible exact II.out _ _)))
      refine wpQuiet_nil ?_;intro G hG;have hbwG : Below wr.heap.size wr G := (by obtain ⟨p, rfl⟩ := hG; exact below_regrown _ _ _);clear hG KM K0 KQ KR1 KR2 K3 r1 r2 p0 q0 c3;have gM := (hbwG.cell (p := ⟨B, P, none⟩) HBW.out.2).trans hmc;have gF := (hbwG.frozen (p := ⟨B, P, none⟩) HBW.out.2).trans hmf;have HG := hid hbwG;clear hbwG hmc hmf;go_wp2
      refine ⟨⟨i + 1, by first | rfl | go_num | (congr 1), by have := HLT.out; omega, hid ⟨?_, ?_, ?_, fun _ => HFV.out, fun j hj => ⟨?_, ?_⟩⟩⟩, by simp only [intOf]; have := HLT.out; omega⟩
      ·exact Below.setCell (p := ⟨B, P, none⟩) (HBW.out.1.trans (HG.out.mono (Nat.le_of_lt HBW.out.2))) (Nat.le_refl B) _
      ·have := HG.out.size; have := HBW.out.2; simp [World.setCell]; omega
      ·have h := HGO.out; simpa using h
      ·by_cases e : j = P
       ·subst e;rw [World.cell?_setCell_same' _ _ _ (by rw [gM]; rfl), HTK.out];simp
       ·rw [World.cell?_setCell_other _ ⟨B, P, none⟩ ⟨B, j, none⟩ _ (by first | (simp; done) | (simp; exact fun h => e h.symm) | (simp; omega)), HG.out.cell HBW.out.2, (HME.out j hj).1, HTK.out];have e2 : ¬ (j : Int) = (P : Int) := (by omega);simp [e2]
      ·rw [World.frozen?_setCell, HG.out.frozen HBW.out.2]; exact (HME.out j hj).2
     ·have HRF := hid (show r = false by rw [<- HGO.out]; simp [hq]);have g1 : (yw != zw) = true := (by simp [hq]);clear hq;go_wp2_with fail
      refine wp_region_quiet_below (by kernel_rfl) (by kernel_rfl) ?_;repeat (first | go_big_quiet_step ((with_reducible exact II.out _ _)) | quiet_step ((with_reducible exact II.out _ _)))
      refine wpQuiet_nil ?_;intro G hG;have hbG : Below B W G := (by obtain ⟨p, rfl⟩ := hG; exact zg HBW.out.1 (Nat.le_of_lt HBW.out.2) _ _);clear hG;go_wp2
      go_ret
      exact ⟨by rw [HRF.out]; rfl, by rw [HBB.out]; exact hbG⟩
   ·have hrf : r = false := by
     rw [<- hgo, hd];unfold z1n;rw [HN.out, show decide (0 <= z /\ z < (n : Int)) = false by simpa using hv];simp
    have iI : ∀ d os, Calls prog 85 #[.int .i64 z, .slice A n c] (grow (redrawn wr d) os) fun e w'' => e = .returned (.bool false) /\ ∃ p : Regrown, w'' = grow (redrawn wr p.d) p.os := fun d os => zh (by
     have h := z2m z A n c (grow (redrawn wr d) os)
     rwa [show decide (0 <= z /\ z < (n : Int)) = false by simpa using hv] at h)
    have II := hid iI;have HRF := hid hrf;clear iI hv hrf hd htk hcell hcl hall hz e1 hRw hgo hf hmet HI HST HR0 hbw hBw hbW hb2;go_wp2_with fail
    refine wp_region_quiet_below (by kernel_rfl) (by kernel_rfl) ?_;repeat (first | go_big_quiet_step ((with_reducible exact II.out _ _)) | quiet_step ((with_reducible exact II.out _ _)))
    refine wpQuiet_nil ?_;intro G hG;have hbG : Below B W G := (by obtain ⟨p, rfl⟩ := hG; exact zg HBW.out.1 (Nat.le_of_lt HBW.out.2) _ _);clear hG;go_wp2
    go_ret
    exact ⟨by rw [HRF.out]; rfl, by rw [HBB.out]; exact hbG⟩
  ·obtain rfl : i = m := by omega
   rw [List.drop_eq_nil_of_le (by rw [HM.out]; exact Nat.le_refl _)] at hgo;have hrt : r = true := by rw [<- hgo]; rfl
   have HRT := hid hrt;clear hrt hgo hmet HI hf;go_wp2
   go_ret
   exact ⟨by rw [HRT.out]; rfl, by rw [HBB.out]; exact hbw⟩
def z5b (x : MUnit) : Bool := decide (1 <= x.count /\ x.count <= 4)
def z35 (R : List MUnit) : Bool := (decide (0 < R.length) && zq [] (R.map fun x => x.name)) && R.all z5b
theorem z73 (W : World) (k : Nat) (m : Mach) (sr sb su si wm : Value) (bad : Bool) (hC : ChkAt W k m sr sb su si wm bad) (hR : ∀ X, Below k W X -> zf 2 z3u X su m.units) (hlen : m.units.length <= 1000) :
 Calls prog 112 #[.pointer (some ⟨k, 0, none⟩)] W fun e w' => e = .returned (.tuple #[]) /\ Then8 k W w' (bad || !(z35 m.units)) := by
 have hk := hC.lt;have HRW := hid hR;obtain ⟨A, c, rfl, hn1, hn2, hn3, _⟩ := hR W (Below.refl _ _);obtain ⟨R, hRR⟩ : ∃ R, m.units = R := ⟨_, rfl⟩;rw [hRR] at HRW hlen hn1 hn2 hC ⊢;obtain ⟨n, hn⟩ : ∃ n, R.length = n := ⟨_, rfl⟩;have HN := hid hn;have hn4 : n <= 9223372036854775807 := by omega
 clear hn3;rw [hn] at HRW hn1 hn2 hC;have HC := hid hC;have c3 := hC.c5;have K3 := cell_regrown c3;have hsz : ∀ x, x ∈ R -> x.name.size <= maxLen := fun x hx => by obtain ⟨i, hi⟩ := List.mem_iff_getElem?.1 hx;obtain ⟨A', c', _, _, _, _, hall⟩ := HRW.out W (Below.refl _ _);obtain ⟨b, o, cs, _, _, _, _, hE⟩ := hall i x hi;exact hE.2.1
 obtain ⟨q, hq⟩ : ∃ q, zq [] (R.map fun x => x.name) = q := ⟨_, rfl⟩;have iN : ∀ d os, Calls prog 144 #[.slice A n c, .func (.func 145) #[] #[]] (grow (redrawn W d) os) fun e w'' => e = .returned (.bool q) /\ ∃ p : Regrown, w'' = grow (redrawn W p.d) p.os := fun d os => Calls.regrown_of (by rw [<- hq];exact zcd _ R _ (HRW.out _ ((below_regrown W d os).mono (Nat.le_of_lt hk))) hlen _ z77 (fun x => x.name) hsz (zah _ _))
 have IN := hid iN;obtain ⟨b0, hb0⟩ : ∃ b0, (bad || !(decide (0 < n) && q)) = b0 := ⟨_, rfl⟩
 have HM := hid (show ∀ X, Below W.heap.size W X -> Calls prog 135 #[.pointer (some ⟨k, 0, none⟩), .slice (some ⟨X.heap.size, 0, none⟩) 2 2] (X.alloc (.cells #[.bool (decide (0 < n)), .bool q] 4)) fun e w' => e = .returned (.tuple #[]) /\ Then8 k W w' b0 /\ w'.cell? ⟨k, 5, none⟩ = some (.slice A n c) from fun X hX =>
  (must2 X k m sr sb _ si wm bad (HC.out.later hX) _ _).mono fun e w' ⟨h1, h2⟩ => by rw [hb0] at h2;have t := (Then8.grown hX hk HC.out.c8 HC.out.fz).trans h2;exact ⟨h1, t, (t.chk HC.out).c5⟩)
 obtain ⟨r, hr⟩ : ∃ r, (bad || !(z35 R)) = r := ⟨_, rfl⟩;have HG := hid (show (b0 || !((R.drop 0).all (z5b))) = r by rw [<- hr, <- hb0, List.drop_zero];unfold z35;rw [hq, hn];cases bad <;> cases decide (0 < n) <;> cases q <;> simp)
 rw [hr];clear hC hR hlen hsz iN hq hb0 hr hRR hn;go_enter Tryz.func112, Tryz.ntmps112
 go_wp2_with fail
 refine zi 13 (.pointer (some ⟨k, 0, none⟩)) (by kernel_rfl) (by kernel_rfl) (fun _ _ _ h => h) rfl (fun _ => rfl) ?_;simp only [List.take_succ_cons, List.take_zero, List.drop_succ_cons, List.drop_zero];repeat (first | go_big_quiet_step ((with_reducible exact IN.out _ _)) | quiet_step ((with_reducible exact IN.out _ _)))
 refine wpQuiet_nil ?_;intro X hX;have hbX : Below W.heap.size W X := by obtain ⟨p, rfl⟩ := hX; exact below_regrown _ _ _
 clear hX;go_wp2_with (go_at_call 135; (with_reducible refine (HM.out X hbX).mono ?_); rintro e w5 ⟨rfl, hT, g3⟩)
 have HB0 := hid hT;clear hT hbX K3;go_loopw [26] (fun v wr => ∃ i : Nat, v = .int .i64 i /\ i <= n /\ Hid (∃ b, Then8 k W wr b /\ (b || !((R.drop i).all (z5b))) = r)) (fun v _ => n - (intOf v).toNat)
 case atStart => exact ⟨0, rfl, Nat.zero_le _, hid ⟨b0, HB0.out, HG.out⟩⟩
 case round =>
  obtain ⟨i, rfl, hi, HI⟩ := hrel;obtain ⟨bi, hT, hbi⟩ := HI.out;by_cases hlt : i < n
  ·obtain ⟨x, hx⟩ : ∃ x, R[i]? = some x := ⟨_, List.getElem?_eq_getElem (by rw [HN.out]; exact hlt)⟩;have hbk := hT.below (Nat.le_refl k) (Nat.le_of_lt hk);obtain ⟨A', c', e1, _, _, _, hall⟩ := HRW.out wr hbk;obtain ⟨b, o, cs, e2, hb, hcl, hcell, hE⟩ := hall i x hx;obtain ⟨rfl, rfl⟩ : A = A' /\ c = c' := by cases e1; exact ⟨rfl, rfl⟩
   subst e2;have HE := hid hE;obtain ⟨rfl, _⟩ := hE;have p0 : wr.cell? ⟨b, o + i * 2, none⟩ = some (.string x.name) := by simpa using hcell 0 _ rfl
   have p1 : wr.cell? ⟨b, o + i * 2 + 1, none⟩ = some (.int .i64 x.count) := hcell 1 _ rfl;have hCw := hT.chk HC.out;have hkw := hCw.lt;have hb1 : Below wr.heap.size wr (wr.alloc (.cells #[.string x.name, .int .i64 x.count] 158)) := (Below.refl _ _).alloc (Nat.le_refl _) _;obtain ⟨g, hg⟩ : ∃ g, decide (1 <= x.count /\ x.count <= 4) = g := ⟨_, rfl⟩;have II := hid (fun w => z2p x.count 1 4 w);rw [hg] at II;have IM := hid (show ∀ B, (wr.alloc (.cells #[.string x.name, .int .i64 x.count] 158)).heap.size = B -> Calls prog 135 #[.pointer (some ⟨k, 0, none⟩), .slice (some ⟨B, 0, none⟩) 1 1] ((wr.alloc (.cells #[.string x.name, .int .i64 x.count] 158)).alloc (.cells #[.bool g] 4)) fun e w' => e = .returned (.tuple #[]) /\ Then8 k W w' (bi || !g) from fun B hB => by subst hB;exact (must1 _ k m sr sb _ si wm bi (hCw.later hb1) g).mono fun e w' ⟨h1, h2⟩ => ⟨h1, hT.trans ((Then8.grown hb1 hkw hCw.c8 hCw.fz).trans h2)⟩)
   have HD := hid (show (bi || !(g && (R.drop (i + 1)).all z5b)) = r by
    rw [<- hbi];have hd : R.drop i = x :: R.drop (i + 1) := by
     rw [List.drop_eq_getElem_cons (by rw [HN.out]; exact hlt)]
     congr 1
     exact Option.some.inj ((List.getElem?_eq_getElem _).symm.trans hx)
    rw [hd, List.all_cons, show z5b x = g from hg])
   have HLT := hid hlt;clear hg hbi hT hCw hbk hall hcell hcl hx HI e1 HC hb1 HE;obtain ⟨xn, hxn⟩ : ∃ z, x.name = z := ⟨_, rfl⟩;obtain ⟨xw, hxw⟩ : ∃ z, x.count = z := ⟨_, rfl⟩;rw [hxn] at p0 IM;rw [hxw] at p1 IM II;clear hxn hxw
   go_wp2_with (first
    | (go_at_call 137; (with_reducible refine (II.out _).mono ?_); rintro e w4 ⟨rfl, rfl⟩)
    | (go_at_call 135; (with_reducible refine (IM.out _ (by simp)).mono ?_); rintro e w5 ⟨rfl, hT⟩))
   go_roundw
   case rel => exact ⟨i + 1, by first | rfl | go_num | (congr 1), by have := HLT.out; omega, hid ⟨_, hT, by rw [<- HD.out]; cases bi <;> cases g <;> simp⟩⟩
   case measure => simp only [intOf]; have := HLT.out; omega
  ·obtain rfl : i = n := by omega
   rw [List.drop_eq_nil_of_le (by rw [HN.out]; exact Nat.le_refl _)] at hbi;obtain rfl : bi = r := by simpa using hbi
   go_wp2
   exact bodyPost_end (v := .tuple #[]) (by simp [results, Tryz.results112, go_sem]) rfl ⟨rfl, hT⟩
def z2i (R : List MReg) (x : MBank) : Bool := decide (0 < x.regs.length) && z7d R x.regs
def z22 (R : List MReg) (L : List MBank) : Bool := zq [] (L.map fun x => x.name) && L.all (z2i R)
theorem zbl (W : World) (s : ByteArray) (z : Value) : ∀ B, W.heap.size = B -> (W.alloc (.cells #[.string s, z] 79)).cell? ⟨B, 0, none⟩ = some (.string s) /\ (W.alloc (.cells #[.string s, z] 79)).cell? ⟨B, 1, none⟩ = some z := by rintro _ rfl;simp only [World.cell?];rw [heap_alloc_new];exact ⟨rfl, rfl⟩
theorem z71 (W : World) (k : Nat) (m : Mach) (sr sb su si wm : Value) (bad : Bool) (RG : List MReg) (hC : ChkAt W k m sr sb su si wm bad) (hRG : ∀ X, Below k W X -> zf 4 regE X sr RG) (h64 : RG.length <= 64) (hR : ∀ X, Below k W X -> zf 2 z1m X sb m.banks) (hlen : m.banks.length <= 1000) :
 Calls prog 111 #[.pointer (some ⟨k, 0, none⟩)] W fun e w' => e = .returned (.tuple #[]) /\ Then8 k W w' (bad || !(z22 RG m.banks)) := by
 have hk := hC.lt;have HRW := hid hR;have HRG := hid hRG;have H64 := hid h64;obtain ⟨A, c, rfl, hn1, hn2, hn3, _⟩ := hR W (Below.refl _ _);obtain ⟨R, hRR⟩ : ∃ R, m.banks = R := ⟨_, rfl⟩;rw [hRR] at HRW hlen hn1 hn2 hC ⊢;obtain ⟨n, hn⟩ : ∃ n, R.length = n := ⟨_, rfl⟩;have HN := hid hn;have hn4 : n <= 9223372036854775807 := by omega
 clear hn3;rw [hn] at HRW hn1 hn2 hC;have HC := hid hC;have c3 := hC.c4;have K3 := cell_regrown c3;have hsz : ∀ x, x ∈ R -> x.name.size <= maxLen := fun x hx => by obtain ⟨i, hi⟩ := List.mem_iff_getElem?.1 hx;obtain ⟨A', c', _, _, _, _, hall⟩ := HRW.out W (Below.refl _ _);obtain ⟨b, o, cs, _, _, _, _, hE⟩ := hall i x hi;exact (by obtain ⟨_, _, h, _⟩ := hE; exact h)
 obtain ⟨q, hq⟩ : ∃ q, zq [] (R.map fun x => x.name) = q := ⟨_, rfl⟩;have IN := hid (show Calls prog 141 #[.slice A n c, .func (.func 142) #[] #[]] W fun e w'' => e = .returned (.bool q) /\ Below W.heap.size W w'' from by rw [<- hq];exact zcb _ R _ (HRW.out _ (Below.refl _ _)) hlen _ z75 (fun x => x.name) hsz (zaf _ _))
 obtain ⟨b0, hb0⟩ : ∃ b0, (bad || !q) = b0 := ⟨_, rfl⟩
 have HM := hid (show ∀ X, Below W.heap.size W X -> Calls prog 135 #[.pointer (some ⟨k, 0, none⟩), .slice (some ⟨X.heap.size, 0, none⟩) 1 1] (X.alloc (.cells #[.bool q] 4)) fun e w' => e = .returned (.tuple #[]) /\ Then8 k W w' b0 /\ w'.cell? ⟨k, 4, none⟩ = some (.slice A n c) from fun X hX =>
  (must1 X k m sr _ su si wm bad (HC.out.later hX) _).mono fun e w' ⟨h1, h2⟩ => by rw [hb0] at h2;have t := (Then8.grown hX hk HC.out.c8 HC.out.fz).trans h2;exact ⟨h1, t, (t.chk HC.out).c4⟩)
 obtain ⟨r, hr⟩ : ∃ r, (bad || !(z22 RG R)) = r := ⟨_, rfl⟩;have HG := hid (show (b0 || !((R.drop 0).all (z2i RG))) = r by rw [<- hr, <- hb0, List.drop_zero];unfold z22;rw [hq];cases bad <;> cases q <;> simp)
 rw [hr];clear hC hR hRG h64 hlen hsz hq hb0 hr hRR hn;go_enter Tryz.func111, Tryz.ntmps111
 go_wp2_with (first
  | (go_at_call 141; (with_reducible refine IN.out.mono ?_); rintro e X ⟨rfl, hbX⟩)
  | (go_at_call 135; (with_reducible refine (HM.out X hbX).mono ?_); rintro e w5 ⟨rfl, hT, g3⟩))
 have HB0 := hid hT;clear hT hbX K3;go_loopw [19] (fun v wr => ∃ i : Nat, v = .int .i64 i /\ i <= n /\ Hid (∃ b, Then8 k W wr b /\ (b || !((R.drop i).all (z2i RG))) = r)) (fun v _ => n - (intOf v).toNat)
 case atStart => exact ⟨0, rfl, Nat.zero_le _, hid ⟨b0, HB0.out, HG.out⟩⟩
 case round =>
  obtain ⟨i, rfl, hi, HI⟩ := hrel;obtain ⟨bi, hT, hbi⟩ := HI.out;by_cases hlt : i < n
  ·obtain ⟨x, hx⟩ : ∃ x, R[i]? = some x := ⟨_, List.getElem?_eq_getElem (by rw [HN.out]; exact hlt)⟩;have hbk := hT.below (Nat.le_refl k) (Nat.le_of_lt hk);obtain ⟨A', c', e1, _, _, _, hall⟩ := HRW.out wr hbk;obtain ⟨b, o, cs, e2, hb, hcl, hcell, hE⟩ := hall i x hx;obtain ⟨rfl, rfl⟩ : A = A' /\ c = c' := by cases e1; exact ⟨rfl, rfl⟩
   subst e2;have HE := hid hE;obtain ⟨sv, rfl, _, hsv⟩ := hE;have p0 : wr.cell? ⟨b, o + i * 2, none⟩ = some (.string x.name) := by simpa using hcell 0 _ rfl
   have p1 : wr.cell? ⟨b, o + i * 2 + 1, none⟩ = some sv := hcell 1 _ rfl;have hCw := hT.chk HC.out;have hkw := hCw.lt;obtain ⟨W1, hW1⟩ : ∃ W1, W1 = wr.alloc (.cells #[.string x.name, sv] 79) := ⟨_, rfl⟩;have HW := hid hW1;have hb1 : Below wr.heap.size wr W1 := by rw [hW1]; exact (Below.refl _ _).alloc (Nat.le_refl _) _
   obtain ⟨f0, f1⟩ := zbl wr x.name sv _ rfl;rw [<- hW1] at f0 f1;have hbX : ∀ X, Below W1.heap.size W1 X -> Below wr.heap.size wr X := fun X hX => hb1.trans (hX.mono hb1.size);have hWX : ∀ X, Below W1.heap.size W1 X -> Below k W X := fun X hX => hbk.trans ((hbX X hX).mono (Nat.le_of_lt hkw));obtain ⟨t, ht⟩ : ∃ t, z7d RG x.regs = t := ⟨_, rfl⟩;have iA : ∀ d os, Calls prog 143 #[.pointer (some ⟨k, 0, none⟩), sv] (grow (redrawn W1 d) os) fun e w'' => e = .returned (.bool t) /\ ∃ p : Regrown, w'' = grow (redrawn W1 p.d) p.os := fun d os => Calls.regrown_of (by rw [<- ht];have hX := below_regrown W1 d os;have hcx := hCw.later (hbX _ hX);exact z8n _ k RG _ hcx.lt hcx.c3 (HRG.out _ (hWX _ hX)) H64.out x.regs sv (hsv.kept (fun cs x hx => intE.kept hx (hbX _ hX)) (hbX _ hX)))
   obtain ⟨A3, c3', rfl, hl1, hl2, hl3, _⟩ := hsv;obtain ⟨nb, hnb⟩ : ∃ nb, x.regs.length = nb := ⟨_, rfl⟩;rw [hnb] at iA p1 f1 HW hl1 hl2;have IA := hid iA;have F1 := cell_regrown f1
   have IM := hid (show ∀ X, Below W1.heap.size W1 X -> Calls prog 135 #[.pointer (some ⟨k, 0, none⟩), .slice (some ⟨X.heap.size, 0, none⟩) 2 2] (X.alloc (.cells #[.bool (decide (0 < nb)), .bool t] 4)) fun e w' => e = .returned (.tuple #[]) /\ Then8 k W w' (bi || !(decide (0 < nb) && t)) from fun X hX =>
    (must2 X k m sr _ su si wm bi (hCw.later (hbX X hX)) _ _).mono fun e w' ⟨h1, h2⟩ => ⟨h1, hT.trans ((Then8.grown (hbX X hX) hkw hCw.c8 hCw.fz).trans h2)⟩)
   have HD := hid (show (bi || !((decide (0 < nb) && t) && (R.drop (i + 1)).all (z2i RG))) = r by
    rw [<- hbi];have hd : R.drop i = x :: R.drop (i + 1) := by
     rw [List.drop_eq_getElem_cons (by rw [HN.out]; exact hlt)]
     congr 1
     exact Option.some.inj ((List.getElem?_eq_getElem _).symm.trans hx)
    rw [hd, List.all_cons, show z2i RG x = (decide (0 < nb) && t) by unfold z2i; rw [hnb, ht]])
   have HLT := hid hlt;clear iA ht hbi hT hCw hbk hbX hWX hall hcell hcl hx HI e1 HC hb1 hW1 hnb HE hl3;obtain ⟨xn, hxn⟩ : ∃ z, x.name = z := ⟨_, rfl⟩;rw [hxn] at p0 f0 HW;clear hxn;obtain ⟨g, hg⟩ : ∃ g, decide (0 < nb) = g := ⟨_, rfl⟩;rw [hg] at HD;have HGG := hid hg;clear hg;go_wp2_with fail
   rw [<- HW.out];refine zi 8 (.pointer (some ⟨k, 0, none⟩)) (by kernel_rfl) (by kernel_rfl) (fun _ _ _ h => h) rfl (fun _ => rfl) ?_;simp only [List.take_succ_cons, List.take_zero, List.drop_succ_cons, List.drop_zero];repeat (first | go_big_quiet_step (with_reducible exact IA.out _ _) | quiet_step (with_reducible exact IA.out _ _))
   refine wpQuiet_nil ?_;intro X hX;have hbX : Below W1.heap.size W1 X := by obtain ⟨p, rfl⟩ := hX; exact below_regrown _ _ _
   clear hX F1 p0 p1 f0 f1;go_wp2_with (go_at_call 135; (with_reducible refine (IM.out X hbX).mono ?_); rintro e w5 ⟨rfl, hT⟩)
   go_roundw
   case rel => exact ⟨i + 1, by first | rfl | go_num | (congr 1), by have := HLT.out; omega, hid ⟨_, hT, by rw [<- HD.out, HGG.out]; cases bi <;> cases g <;> simp⟩⟩
   case measure => simp only [intOf]; have := HLT.out; omega
  ·obtain rfl : i = n := by omega
   rw [List.drop_eq_nil_of_le (by rw [HN.out]; exact Nat.le_refl _)] at hbi;obtain rfl : bi = r := by simpa using hbi
   go_wp2
   exact bodyPost_end (v := .tuple #[]) (by simp [results, Tryz.results111, go_sem]) rfl ⟨rfl, hT⟩
def zv (word : Int) (p : MPiece) : Bool := decide (1 <= p.len /\ p.len <= 8 * word) && decide (0 <= p.pos /\ p.pos <= 8 * word - p.len)
theorem z45 (W : World) (p l : Int) : ∀ B, W.heap.size = B -> (W.alloc (.cells #[.int .i64 p, .int .i64 l] 172)).cell? ⟨B, 0, none⟩ = some (.int .i64 p) /\ (W.alloc (.cells #[.int .i64 p, .int .i64 l] 172)).cell? ⟨B, 1, none⟩ = some (.int .i64 l) := by rintro _ rfl;simp only [World.cell?];rw [heap_alloc_new];exact ⟨rfl, rfl⟩
theorem zaa (W : World) (k : Nat) (word : Int) (hk : k < W.heap.size) (c1 : W.cell? ⟨k, 1, none⟩ = some (.int .i64 word)) (hw : 1 <= word /\ word <= 4) (x : MPiece) (cs : List Value) (hE : z44 W cs x) :
 Calls prog 173 #[.pointer (some ⟨k, 0, none⟩), .agg cs.toArray] W fun e w' => e = .returned (.bool (zv word x)) /\ Below W.heap.size W w' := by
 obtain ⟨rfl, hp, hl⟩ := hE;obtain ⟨p, hpp⟩ : ∃ p, x.pos = p := ⟨_, rfl⟩;obtain ⟨l, hll⟩ : ∃ p, x.len = p := ⟨_, rfl⟩;unfold zv;rw [hpp] at hp ⊢;rw [hll] at hl ⊢;clear hpp hll;obtain ⟨W1, hW1⟩ : ∃ W1, W1 = W.alloc (.cells #[.int .i64 p, .int .i64 l] 172) := ⟨_, rfl⟩;have HW := hid hW1;have hb : Below W.heap.size W W1 := by rw [hW1]; exact (Below.refl _ _).alloc (Nat.le_refl _) _
 have HB := hid (zg hb hb.size);obtain ⟨f0, f1⟩ := z45 W p l _ rfl;rw [<- hW1] at f0 f1;have d1 := (hb.cell (p := ⟨k, 1, none⟩) hk).trans c1;have K1 := cell_regrown d1;have F0 := cell_regrown f0;have F1 := cell_regrown f1;have w8 : wrap64 (8 * word) = 8 * word := zd _ (by omega) (by omega);have iI : ∀ d os, Calls prog 137 #[.int .i64 l, .int .i64 1, .int .i64 (8 * word)] (grow (redrawn W1 d) os) fun e w'' => e = .returned (.bool (decide (1 <= l /\ l <= 8 * word))) /\ ∃ p : Regrown, w'' = grow (redrawn W1 p.d) p.os := fun d os => zh (z2p _ _ _ _);by_cases hin : 1 <= l /\ l <= 8 * word
 ·have w9 : wrap64 (8 * word - l) = 8 * word - l := zd _ (by omega) (by omega);have iJ : ∀ d os, Calls prog 137 #[.int .i64 p, .int .i64 0, .int .i64 (8 * word - l)] (grow (redrawn W1 d) os) fun e w'' => e = .returned (.bool (decide (0 <= p /\ p <= 8 * word - l))) /\ ∃ p : Regrown, w'' = grow (redrawn W1 p.d) p.os := fun d os => zh (z2p _ _ _ _);rw [show decide (1 <= l /\ l <= 8 * word) = true by simpa using hin] at iI ⊢;obtain ⟨g, hg⟩ : ∃ g, decide (0 <= p /\ p <= 8 * word - l) = g := ⟨_, rfl⟩;rw [hg] at iJ ⊢;have II := hid iI;have IJ := hid iJ;clear iI iJ hg hin hw hp hl hb hW1;rw [Bool.true_and];go_enter Tryz.func173, Tryz.ntmps173
  go_wp2_with fail
  rw [<- HW.out];refine wp_region_quiet_below (by kernel_rfl) (by kernel_rfl) ?_;repeat (first | go_big_quiet_step (first | (with_reducible exact II.out _ _) | (with_reducible exact IJ.out _ _)) | quiet_step (first | (with_reducible exact II.out _ _) | (with_reducible exact IJ.out _ _)))
  refine wpQuiet_nil ?_;intro G hG;have hbG : Below W.heap.size W G := by obtain ⟨p, rfl⟩ := hG; exact HB.out _ _
  clear hG;go_wp2
  go_ret
  exact ⟨rfl, hbG⟩
 ·rw [show decide (1 <= l /\ l <= 8 * word) = false by simpa using hin] at iI ⊢;have II := hid iI;clear iI hin hw hp hl hb hW1;rw [Bool.false_and];go_enter Tryz.func173, Tryz.ntmps173
  go_wp2_with fail
  rw [<- HW.out];refine wp_region_quiet_below (by kernel_rfl) (by kernel_rfl) ?_;repeat (first | go_big_quiet_step (with_reducible exact II.out _ _) | quiet_step (with_reducible exact II.out _ _))
  refine wpQuiet_nil ?_;intro G hG;have hbG : Below W.heap.size W G := by obtain ⟨p, rfl⟩ := hG; exact HB.out _ _
  clear hG;go_wp2
  go_ret
  exact ⟨rfl, hbG⟩
theorem z90 (n : Int) (w : World) : Calls prog 176 #[.int .i64 n] w fun e w' => e = .returned (.bool (decide (n = 8 ∨ n = 16 ∨ n = 32 ∨ n = 64))) /\ w = w' := by
 by_cases h1 : n = 8
 ·subst h1;go_enter Tryz.func176, Tryz.ntmps176
  go_wp2
  go_ret
  exact ⟨rfl, rfl⟩
 ·by_cases h2 : n = 16
  ·subst h2;go_enter Tryz.func176, Tryz.ntmps176
   go_wp2
   go_ret
   exact ⟨rfl, rfl⟩
  ·by_cases h3 : n = 32
   ·subst h3;go_enter Tryz.func176, Tryz.ntmps176
    go_wp2
    go_ret
    exact ⟨rfl, rfl⟩
   ·have g1 : (n == 8) = false := (by simp [h1]);have g2 : (n == 16) = false := (by simp [h2]);have g3 : (n == 32) = false := (by simp [h3]);have e : decide (n = 8 ∨ n = 16 ∨ n = 32 ∨ n = 64) = (n == 64) := (by simp [h1, h2, h3, Bool.beq_eq_decide_eq]);rw [e];clear e h1 h2 h3;obtain ⟨g, hg⟩ : ∃ g, (n == 64) = g := ⟨_, rfl⟩;rw [hg];go_enter Tryz.func176, Tryz.ntmps176
    go_wp2
    go_ret
    exact ⟨rfl, rfl⟩
def z2z (t : Tm) : Bool := ((t.kind : Int) == 0) && ((t.width == 0) && (((t.bits : Int) == 0) && (t.name.toList.isEmpty && ((t.low == 0) && ((t.sub.length : Int) == 0)))))
theorem zac (W : World) (kd wd bt lo n : Int) (s : ByteArray) (A : Option Addr) (c : Nat) (b1 b2 b3 b4 b5 b6 : Bool) (h1 : (kd == 0) = b1) (h2 : (wd == 0) = b2) (h3 : (bt == 0) = b3) (h4 : s.toList.isEmpty = b4) (h5 : (lo == 0) = b5) (nn : Nat) (h6 : ((nn : Int) == 0) = b6) :
 Calls prog 177 #[.agg #[.int .u8 kd, .int .i64 wd, .int .u64 bt, .string s, .int .i64 lo, .slice A nn c]] W fun e w' => e = .returned (.bool (b1 && (b2 && (b3 && (b4 && (b5 && b6)))))) /\ Below W.heap.size W w' := by
 have HB := hid ((Below.refl W.heap.size W).alloc (Nat.le_refl _) (.cells #[.int .u8 kd, .int .i64 wd, .int .u64 bt, .string s, .int .i64 lo, .slice A nn c] 90))
 cases b1 with
 | false =>
   go_enter Tryz.func177, Tryz.ntmps177
   go_wp2
   go_ret
   exact ⟨rfl, HB.out⟩
 | true =>
   cases b2 with
   | false =>
     go_enter Tryz.func177, Tryz.ntmps177
     go_wp2
     go_ret
     exact ⟨rfl, HB.out⟩
   | true =>
     cases b3 with
     | false =>
       go_enter Tryz.func177, Tryz.ntmps177
       go_wp2
       go_ret
       exact ⟨rfl, HB.out⟩
     | true =>
       cases b4 with
       | false =>
         go_enter Tryz.func177, Tryz.ntmps177
         go_wp2
         go_ret
         exact ⟨rfl, HB.out⟩
       | true =>
         cases b5 with
         | false =>
           go_enter Tryz.func177, Tryz.ntmps177
           go_wp2
           go_ret
           exact ⟨rfl, HB.out⟩
         | true =>
           cases b6 with
           | false =>
             go_enter Tryz.func177, Tryz.ntmps177
             go_wp2
             go_ret
             exact ⟨rfl, HB.out⟩
           | true =>
             go_enter Tryz.func177, Tryz.ntmps177
             go_wp2
             go_ret
             exact ⟨rfl, HB.out⟩
theorem z5j (W : World) (t : Tm) (cs : List Value) (hE : zcn W cs t) :
 Calls prog 177 #[.agg cs.toArray] W fun e w' => e = .returned (.bool (z2z t)) /\ Below W.heap.size W w' := by
 obtain ⟨sv, rfl, _, hs⟩ := hE;obtain ⟨A, n, c, S, rfl, hn, _⟩ := hs.inv;have h := zac W t.kind t.width t.bits t.low 0 t.name A c _ _ _ _ _ _ rfl rfl rfl rfl rfl n rfl;unfold z2z;rw [hn];exact h
theorem z91 (W : World) (x : MOper) (bank : Int) (cs : List Value) (hE : z1g W cs x) :
 Calls prog 185 #[.agg cs.toArray, .int .i64 bank] W fun e w' => e = .returned (.bool (decide ((x.kind : Int) = 1) && (decide (x.bank = bank) && decide (x.tied = -1)))) /\ Below W.heap.size W w' := by
 obtain ⟨sv, rfl, _, _, _, _, hp, _⟩ := hE;obtain ⟨A, c, rfl, _⟩ := hp;have HB := hid (fun cs => (Below.refl W.heap.size W).alloc (Nat.le_refl _) (.cells cs 86));obtain ⟨kd, hk⟩ : ∃ kd : Int, (x.kind : Int) = kd := ⟨_, rfl⟩;obtain ⟨bk, hb⟩ : ∃ bk, x.bank = bk := ⟨_, rfl⟩;obtain ⟨td, ht⟩ : ∃ td, x.tied = td := ⟨_, rfl⟩;rw [hk, hb, ht];clear hk hb ht;by_cases h1 : kd = 1
 ·subst h1;by_cases h2 : bk = bank
  ·subst h2;by_cases h3 : td = -1
   ·subst h3;go_enter Tryz.func185, Tryz.ntmps185
    go_wp2
    go_ret
    exact ⟨by simp, HB.out _⟩
   ·have g3 : (td == -1) = false := (by simp [h3]);rw [show decide (td = -1) = false by simp [h3]];clear h3;go_enter Tryz.func185, Tryz.ntmps185
    go_wp2
    go_ret
    exact ⟨by simp, HB.out _⟩
  ·have g2 : (bk == bank) = false := by simp [h2]
   rw [show decide (bk = bank) = false by simp [h2]];clear h2;go_enter Tryz.func185, Tryz.ntmps185
   go_wp2
   go_ret
   exact ⟨by simp, HB.out _⟩
 ·have g1 : (kd == 1) = false := by simp [h1]
  rw [show decide (kd = 1) = false by simp [h1]];clear h1;go_enter Tryz.func185, Tryz.ntmps185
  go_wp2
  go_ret
  exact ⟨by simp, HB.out _⟩
def fwR : Int -> List MPiece -> Int
 | a, [] => a
 | a, p :: l => fwR (wrap64 (a + p.len)) l
theorem z78 (W : World) (x : MOper) (cs : List Value) (hE : z1g W cs x) (h4 : x.pieces.length <= 1000) :
 Calls prog 114 #[.agg cs.toArray] W fun e w' => e = .returned (.int .i64 (fwR 0 x.pieces)) /\ Below W.heap.size W w' := by
 obtain ⟨sv, rfl, _, _, _, _, hp, _⟩ := hE;have HP := hid hp;obtain ⟨A, c, rfl, _⟩ := hp;obtain ⟨L, hL⟩ : ∃ L, x.pieces = L := ⟨_, rfl⟩;rw [hL] at HP h4 ⊢;obtain ⟨n, hn⟩ : ∃ n, L.length = n := ⟨_, rfl⟩;have HN := hid hn;rw [hn] at HP ⊢;have hn4 : n <= 9223372036854775807 := by omega
 have HB := hid ((Below.refl W.heap.size W).alloc (Nat.le_refl _) (.cells #[.string x.name, .int .u8 x.kind, .int .i64 x.bank, .int .i64 x.scale, .slice A n c, .int .i64 x.tied] 86));obtain ⟨r, hr⟩ : ∃ r, fwR 0 L = r := ⟨_, rfl⟩;have HR := hid hr;rw [hr];clear hL hn hr h4;show Calls prog 114 #[.agg #[.string x.name, .int .u8 x.kind, .int .i64 x.bank, .int .i64 x.scale, .slice A n c, .int .i64 x.tied]] W _;go_enter Tryz.func114, Tryz.ntmps114
 go_wp2
 go_loopw [3, 9] (fun va vi wr => ∃ (a : Int) (i : Nat), va = .int .i64 a /\ vi = .int .i64 i /\ i <= n /\ Hid (Below W.heap.size W wr /\ fwR a (L.drop i) = r)) (fun _ vi _ => n - (intOf vi).toNat)
 case atStart => exact ⟨0, 0, rfl, rfl, Nat.zero_le _, hid ⟨HB.out, by rw [List.drop_zero]; exact HR.out⟩⟩
 case round =>
  obtain ⟨a, i, rfl, rfl, hi, HI⟩ := hrel;obtain ⟨hbw, hg⟩ := HI.out;by_cases hlt : i < n
  ·obtain ⟨p, hp⟩ : ∃ p, L[i]? = some p := ⟨_, List.getElem?_eq_getElem (by rw [HN.out]; exact hlt)⟩;obtain ⟨A', c', e1, _, _, _, hall⟩ := HP.out.kept (fun cs x hx => z44.kept hx hbw) hbw;obtain ⟨b, o, cs, e2, hb, hcl, hcell, hE⟩ := hall i p hp;obtain ⟨rfl, rfl⟩ : A = A' /\ c = c' := by cases e1; exact ⟨rfl, rfl⟩
   subst e2;obtain ⟨rfl, _⟩ := hE;have p0 : wr.cell? ⟨b, o + i * 2, none⟩ = some (.int .i64 p.pos) := by simpa using hcell 0 _ rfl
   have p1 : wr.cell? ⟨b, o + i * 2 + 1, none⟩ = some (.int .i64 p.len) := hcell 1 _ rfl;have hd : L.drop i = p :: L.drop (i + 1) := by
    rw [List.drop_eq_getElem_cons (by rw [HN.out]; exact hlt)]
    congr 1
    exact Option.some.inj ((List.getElem?_eq_getElem _).symm.trans hp)
   have HG := hid (show fwR (wrap64 (a + p.len)) (L.drop (i + 1)) = r by rw [<- hg, hd]; rfl);have HB2 := hid (fun o => hbw.alloc hbw.size o);have HLT := hid hlt;clear hg hd hcell hcl hall hp e1 hbw HI;go_wp2
   refine ⟨⟨_, i + 1, rfl, by first | rfl | go_num | (congr 1), by have := HLT.out; omega, hid ⟨HB2.out _, HG.out⟩⟩, by simp only [intOf]; have := HLT.out; omega⟩
  ·obtain rfl : i = n := by omega
   rw [List.drop_eq_nil_of_le (by rw [HN.out]; exact Nat.le_refl _)] at hg;obtain rfl : a = r := hg;go_wp2
   go_ret
   exact ⟨rfl, hbw⟩
end Go.Proofs.YtdmadnfadgggcaaGreatDoor
namespace Go.Proofs.YtdmadnfadgggcaaGreatDoor
open Go Go.RowKit
section
variable {P : Program} {ops : Array Oper} {rest : List Oper} {o : Oper} {a : Act} {w : World} {Q : Exit -> Act -> World -> Prop}
theorem zcm (X : World) (c' c : Array Value) (t : TypeId) : (X.alloc (.cells c' t)).setRow X.heap.size c = X.alloc (.cells c t) := by
 have hh : ((X.alloc (.cells c' t)).setRow X.heap.size c).heap = (X.alloc (.cells c t)).heap := by
  have hnew : (X.alloc (.cells c' t)).heap[X.heap.size]? = some (.cells c' t) := heap_alloc_new X _;apply Array.ext_getElem?;intro i;by_cases hi : i = X.heap.size
  ·subst hi;rw [setRow_heap _ _ c' c t (0, 0) hnew, heap_alloc_new X (.cells c t)]
  ·rw [setRow_other _ _ _ _ hi];rcases Nat.lt_or_ge i X.heap.size with h | h
   ·rw [RowKit.Below.heap_alloc _ _ _ h, RowKit.Below.heap_alloc _ _ _ h]
   ·rw [Array.getElem?_eq_none (by simp; omega), Array.getElem?_eq_none (by simp; omega)]
 have e : (X.alloc (.cells c' t)).setRow X.heap.size c = { X.alloc (.cells c t) with heap := ((X.alloc (.cells c' t)).setRow X.heap.size c).heap } := rfl;rw [e, hh]
theorem z1k (hgd : o.guard = none) (ty : TypeId) (x : Operand) (ho : o.op = .load ty x) (b k : Nat) (hx : a.eval x = .pointer (some ⟨b, k, none⟩)) (cs : Array Value) (d : TypeDesc)
 (hu : P.underlying ty = some d) (hd : (match d with | .struct _ | .array _ _ => true | _ => false) = true) (hi : (P.info? ty).map (·.size) = some cs.size)
 (hc : ∀ j v, cs[j]? = some v -> w.cell? ⟨b, k + j, none⟩ = some v)
 (h : wpList P ops Q rest (a.put o.dst (.agg cs)) w) : wpList P ops Q (o :: rest) a w :=
 wpList_plain hgd fun _ hK => by
  have hl : (loadCells ⟨b, k, none⟩ cs.toList.length).run P w = .ok cs.toList.toArray w :=
   run_loadCells_list (P := P) w ⟨b, k, none⟩ cs.toList (fun j v hv => by have hadd : (⟨b, k, none⟩ : Addr).add j = ⟨b, k + j, none⟩ := (by unfold Addr.add; split <;> simp_all);rw [hadd];exact hc j v (by simpa using hv))
  have hlv : (loadVar ty ⟨b, k, none⟩).run P w = .ok (.agg cs) w := by
   cases hq : P.info? ty with
   | none => simp [hq] at hi
   | some i =>
     have hs : i.size = cs.size := (by simpa [hq] using hi);have hagg : (isAgg ty).run P w = .ok true w := by unfold isAgg;rw [Sem.run_bind, run_underlying hu w];cases d <;> simp_all
     simp only [Array.length_toList, Array.toArray_toList] at hl;simp [loadVar, Sem.run_bind, hagg, sizeOf, typeInfo, hq, hs, hl]
  unfold Oper.wp execOp;simp only [ho, hx, Instr.loadAt, Instr.sureAddr, Sem.run_bind, Sem.run_pure, Result.andThen_ok, hlv];exact hK _ _ h
theorem z3d (hgd : o.guard = none) (ty : TypeId) (ho : o.op = .alloc ty) (z : Array Value) (ha : ∀ w, (Instr.alloc ty true (.tuple #[])).run P w = .ok (.pointer (some ⟨w.heap.size, 0, none⟩)) (w.alloc (.cells z ty)))
 (h : wpList P ops Q rest (a.put o.dst (.pointer (some ⟨w.heap.size, 0, none⟩))) (w.alloc (.cells z ty))) : wpList P ops Q (o :: rest) a w :=
 wpList_plain hgd fun _ hK => by unfold Oper.wp execOp;simp only [ho, Sem.run_bind, ha w, Result.andThen_ok];exact hK _ _ h
theorem z3e (hgd : o.guard = none) (ty : TypeId) (x y : Operand) (ho : o.op = .store ty x y) (z cs : Array Value) (hx : a.eval x = .pointer (some ⟨w.heap.size, 0, none⟩)) (hy : a.eval y = .agg cs)
 (hi : (P.info? ty).map (·.size) = some cs.size) (hold : z.size = cs.size) (h1 : cs.all (·.oneCell') = true)
 (h : wpList P ops Q rest (a.put o.dst undef) (w.alloc (.cells cs ty))) : wpList P ops Q (o :: rest) a (w.alloc (.cells z ty)) :=
 wpList_store_row hgd ty x y ho w.heap.size cs hx hy ty z (heap_alloc_new w _) hi hold h1 (by rw [zcm]; exact h)
end
end Go.Proofs.YtdmadnfadgggcaaGreatDoor
namespace Go.Proofs.YtdmadnfadgggcaaGreatDoor
open Go.RowKit Go.Instr Go.Sort
set_option maxRecDepth 100000
def z1c (k : Nat) : List MEff -> Nat
 | [] => 0
 | f :: l => (if f.kind = k then 1 else 0) + z1c k l
theorem z8u (k : Nat) (l : List MEff) : z1c k l <= l.length := by
 induction l with
 | nil => exact Nat.le_refl _
 | cons f l ih => simp only [z1c, List.length_cons]; split <;> omega
theorem z5w (W : World) (k : Nat) (v : Value) (L : List MEff) (hL : zf 21 effE W v L) (h4 : L.length <= 1000) :
 Calls prog 160 #[v, .int .u8 k] W fun e w' => e = .returned (.int .i64 (z1c k L)) /\ Below W.heap.size W w' := by
 have HP := hid hL;obtain ⟨A, c, rfl, _⟩ := hL;obtain ⟨n, hn⟩ : ∃ n, L.length = n := ⟨_, rfl⟩;have HN := hid hn;rw [hn] at HP h4 ⊢;have hn4 : n <= 9223372036854775807 := by omega
 obtain ⟨r, hr⟩ : ∃ r, z1c k L = r := ⟨_, rfl⟩;have HR := hid hr;rw [hr];clear hn hr
 obtain ⟨Z, hZs, hZ⟩ : ∃ Z : Array Value, Z.size = 21 /\ ∀ w, (Instr.alloc 92 true (.tuple #[])).run prog w = .ok (.pointer (some ⟨w.heap.size, 0, none⟩)) (w.alloc (.cells Z 92)) :=
  ⟨#[.int .u8 0, .int .i64 0, .int .i64 0, .int .u8 0, .int .i64 0, .int .u64 0, .string ⟨#[]⟩, .int .i64 0, .slice none 0 0, .int .u8 0, .int .i64 0, .int .u64 0, .string ⟨#[]⟩, .int .i64 0, .slice none 0 0, .int .u8 0, .int .i64 0, .int .u64 0, .string ⟨#[]⟩, .int .i64 0, .slice none 0 0], rfl, fun w => by kernel_rfl⟩
 have HZ := hid hZ;have HZS := hid hZs;clear hZ hZs;go_enter Tryz.func160, Tryz.ntmps160
 go_wp2
 go_loopw [5, 10] (fun va vi wr => ∃ (a i : Nat), va = .int .i64 a /\ vi = .int .i64 i /\ i <= n /\ a <= i /\ Hid (Below W.heap.size W wr /\ a + z1c k (L.drop i) = r)) (fun _ vi _ => n - (intOf vi).toNat)
 case atStart => exact ⟨0, 0, rfl, rfl, Nat.zero_le _, Nat.le_refl _, hid ⟨Below.refl _ _, by rw [List.drop_zero, Nat.zero_add]; exact HR.out⟩⟩
 case round =>
  obtain ⟨a, i, rfl, rfl, hi, hai, HI⟩ := hrel;obtain ⟨hbw, hg⟩ := HI.out;by_cases hlt : i < n
  ·obtain ⟨p, hp⟩ : ∃ p, L[i]? = some p := ⟨_, List.getElem?_eq_getElem (by rw [HN.out]; exact hlt)⟩;obtain ⟨A', c', e1, _, _, _, hall⟩ := HP.out.kept (fun cs x hx => effE.kept hx hbw) hbw;obtain ⟨b, o, cs, e2, hb, hcl, hcell, hE⟩ := hall i p hp;obtain ⟨rfl, rfl⟩ : A = A' /\ c = c' := by cases e1; exact ⟨rfl, rfl⟩
   subst e2;obtain ⟨_, _, _, rfl, _, _, _, _, hs1, _, hs2, _, hs3⟩ := hE;obtain ⟨S1, n1, z1, _, rfl, _⟩ := hs1.inv;obtain ⟨S2, n2, z2, _, rfl, _⟩ := hs2.inv;obtain ⟨S3, n3, z3, _, rfl, _⟩ := hs3.inv;obtain ⟨CS, hCS⟩ : ∃ CS : Array Value, CS = (([.int .u8 p.kind, .int .i64 p.oper, .int .i64 p.reg] : List Value) ++ Tm.cells p.addr (.slice S1 n1 z1) ++ Tm.cells p.value (.slice S2 n2 z2) ++ Tm.cells p.cond (.slice S3 n3 z3)).toArray := ⟨_, rfl⟩;have hCl : CS.size = 21 := by rw [hCS]; rfl
   have HI79 := hid (show (prog.info? 92).map (·.size) = some CS.size by rw [hCl]; kernel_rfl);have HZ2 := hid (show Z.size = CS.size by rw [hCl]; exact HZS.out);have HONE := hid (show CS.all (·.oneCell') = true by rw [hCS]; simp [Tm.cells, Value.oneCell']);have HCC := hid (show ∀ j v, CS[j]? = some v -> wr.cell? ⟨b, o + i * 21 + j, none⟩ = some v from fun j v hj => hcell j v (by rw [hCS] at hj; simpa using hj));have d0 : (wr.alloc (.cells CS 92)).cell? ⟨wr.heap.size, 0, none⟩ = some (.int .u8 p.kind) := by simp only [World.cell?];rw [heap_alloc_new, hCS];rfl
   have hd : L.drop i = p :: L.drop (i + 1) := by
    rw [List.drop_eq_getElem_cons (by rw [HN.out]; exact hlt)]
    congr 1
    exact Option.some.inj ((List.getElem?_eq_getElem _).symm.trans hp)
   have HG := hid (show a + ((if p.kind = k then 1 else 0) + z1c k (L.drop (i + 1))) = r by rw [<- hg, hd]; rfl);have HB2 := hid (fun o => hbw.alloc hbw.size o);have HLT := hid hlt;obtain ⟨kd, hkd⟩ : ∃ kd, p.kind = kd := ⟨_, rfl⟩;rw [hkd] at HG d0;clear hg hd hcell hcl hall hp e1 hbw HI hkd hCS hCl hs1 hs2 hs3;by_cases hq : kd = k
   ·subst hq;rw [if_pos rfl] at HG;have ha4 : (a : Int) + 1 <= 9223372036854775807 := by omega
    go_wp2_with (first
     | (refine z1k rfl 92 _ rfl b (o + i * 21) rfl CS _ Tryz.underlying92 rfl HI79.out HCC.out ?_)
     | (refine z3d rfl 92 rfl Z HZ.out ?_)
     | (refine z3e rfl 92 _ _ rfl Z CS rfl rfl HI79.out HZ2.out HONE.out ?_))
    refine ⟨⟨a + 1, i + 1, by first | rfl | go_num | (congr 1), by first | rfl | go_num | (congr 1), by have := HLT.out; omega, by omega, hid ⟨HB2.out _, by have := HG.out; omega⟩⟩, by simp only [intOf]; have := HLT.out; omega⟩
   ·rw [if_neg hq] at HG;have g : ((kd : Int) == (k : Int)) = false := (by simp; omega);clear hq
    go_wp2_with (first
     | (refine z1k rfl 92 _ rfl b (o + i * 21) rfl CS _ Tryz.underlying92 rfl HI79.out HCC.out ?_)
     | (refine z3d rfl 92 rfl Z HZ.out ?_)
     | (refine z3e rfl 92 _ _ rfl Z CS rfl rfl HI79.out HZ2.out HONE.out ?_))
    refine ⟨⟨a, i + 1, rfl, by first | rfl | go_num | (congr 1), by have := HLT.out; omega, by omega, hid ⟨HB2.out _, by have := HG.out; omega⟩⟩, by simp only [intOf]; have := HLT.out; omega⟩
  ·obtain rfl : i = n := by omega
   rw [List.drop_eq_nil_of_le (by rw [HN.out]; exact Nat.le_refl _)] at hg;obtain rfl : a = r := hg;go_wp2
   go_ret
   exact ⟨rfl, hbw⟩
def zu (address : Int) (R : List MReg) (L : List MBank) (x : MOper) : Int :=
 if (x.kind : Int) = 1 then (match L[x.bank.toNat]? with | some b => zx R (b.regs.headD 0) | none => 0) else address
def z4t (R : List MReg) (L : List MBank) (x : MOper) : Prop :=
 (x.kind : Int) = 1 -> ∃ (i z : Nat) (b : MBank) (y : MReg), x.bank = i /\ L[i]? = some b /\ b.regs[0]? = some (z : Int) /\ R[z]? = some y
theorem z70 (W : World) (k : Nat) (address : Int) (R : List MReg) (L : List MBank) (sr sb : Value) (hk : k < W.heap.size) (c2 : W.cell? ⟨k, 2, none⟩ = some (.int .i64 address)) (c3 : W.cell? ⟨k, 3, none⟩ = some sr) (c4 : W.cell? ⟨k, 4, none⟩ = some sb)
 (hR : zf 4 regE W sr R) (hL : zf 2 z1m W sb L) (x : MOper) (cs : List Value) (hE : z1g W cs x) (hv : z4t R L x) :
 Calls prog 163 #[.pointer (some ⟨k, 0, none⟩), .agg cs.toArray] W fun e w' => e = .returned (.int .i64 (zu address R L x)) /\ Below W.heap.size W w' := by
 obtain ⟨sv, rfl, _, _, _, _, hp, _⟩ := hE;obtain ⟨Ap, cp, rfl, _⟩ := hp;obtain ⟨np, hnp⟩ : ∃ n, x.pieces.length = n := ⟨_, rfl⟩;rw [hnp];obtain ⟨W1, hW1⟩ : ∃ W1, W1 = W.alloc (.cells #[.string x.name, .int .u8 x.kind, .int .i64 x.bank, .int .i64 x.scale, .slice Ap np cp, .int .i64 x.tied] 86) := ⟨_, rfl⟩;have HW := hid hW1;have hb : Below W.heap.size W W1 := by rw [hW1]; exact (Below.refl _ _).alloc (Nat.le_refl _) _
 have HB := hid (zg hb hb.size);have HB1 := hid hb;have f1 : W1.cell? ⟨W.heap.size, 1, none⟩ = some (.int .u8 x.kind) := by rw [hW1]; simp only [World.cell?]; rw [heap_alloc_new]; rfl
 have f2 : W1.cell? ⟨W.heap.size, 2, none⟩ = some (.int .i64 x.bank) := by rw [hW1]; simp only [World.cell?]; rw [heap_alloc_new]; rfl
 have d2 := (hb.cell (p := ⟨k, 2, none⟩) hk).trans c2;have d3 := (hb.cell (p := ⟨k, 3, none⟩) hk).trans c3;have d4 := (hb.cell (p := ⟨k, 4, none⟩) hk).trans c4;show Calls prog 163 #[.pointer (some ⟨k, 0, none⟩), .agg #[.string x.name, .int .u8 x.kind, .int .i64 x.bank, .int .i64 x.scale, .slice Ap np cp, .int .i64 x.tied]] W _;by_cases h1 : (x.kind : Int) = 1
 ·obtain ⟨i, z, bk, y, hi, hLi, hz, hy⟩ := hv h1;have hq : zu address R L x = y.width := by
   unfold zu;rw [if_pos h1, hi, show (i : Int).toNat = i by simp, hLi];show zx R (bk.regs.headD 0) = _;have e : bk.regs.headD 0 = (z : Int) := by
    cases hr : bk.regs with
    | nil => rw [hr] at hz; simp at hz
    | cons a l => rw [hr] at hz; simp at hz ⊢; exact hz
   rw [e];unfold zx;rw [show (z : Int).toNat = z by simp, hy]
  obtain ⟨A1, q1, rfl, _, _, _, hallR⟩ := hR;obtain ⟨A2, q2, rfl, _, _, _, hallL⟩ := hL;obtain ⟨b, o, cs1, rfl, hbl, _, hcell, hE⟩ := hallR z y hy;obtain ⟨rfl, _⟩ := hE;obtain ⟨b2, o2, cs2, rfl, hbl2, _, hcell2, hE2⟩ := hallL i bk hLi;obtain ⟨sv2, rfl, _, hsv2⟩ := hE2;obtain ⟨A3, q3, rfl, _, _, _, hall3⟩ := hsv2;obtain ⟨b3, o3, cs3, rfl, hbl3, _, hcell3, hE3⟩ := hall3 0 _ hz;obtain ⟨rfl, _⟩ := hE3;have e1 : W1.cell? ⟨b, o + z * 4 + 1, none⟩ = some (.int .i64 y.width) := (hb.cell hbl).trans (hcell 1 _ rfl);have e2 : W1.cell? ⟨b2, o2 + i * 2 + 1, none⟩ = some (.slice (some ⟨b3, o3, none⟩) bk.regs.length q3) := (hb.cell hbl2).trans (hcell2 1 _ rfl);have e3 : W1.cell? ⟨b3, o3, none⟩ = some (.int .i64 z) := (hb.cell hbl3).trans (by simpa using hcell3 0 _ rfl);have hzn : (z : Int) < (R.length : Int) := by have := (List.getElem?_eq_some_iff.1 hy).1; omega
  have hin : (i : Int) < (L.length : Int) := by have := (List.getElem?_eq_some_iff.1 hLi).1; omega
  have h0n : (0 : Int) < (bk.regs.length : Int) := by have := (List.getElem?_eq_some_iff.1 hz).1; omega
  have hz0 : (0 : Int) <= (z : Int) := by omega
  have hi0 : (0 : Int) <= (i : Int) := by omega
  rw [hq];obtain ⟨yw, hyw⟩ : ∃ yw, y.width = yw := ⟨_, rfl⟩;obtain ⟨n1, hn1⟩ : ∃ n, R.length = n := ⟨_, rfl⟩;obtain ⟨n2, hn2⟩ : ∃ n, L.length = n := ⟨_, rfl⟩;obtain ⟨n3, hn3⟩ : ∃ n, bk.regs.length = n := ⟨_, rfl⟩;rw [hyw] at e1 ⊢;rw [hn1] at d3 hzn;rw [hn2] at d4 hin;rw [hn3] at e2 h0n;rw [hi] at f2 hW1 HW ⊢;rw [h1] at f1 hW1 HW ⊢;have K2 := cell_regrown f2;have K3 := cell_regrown d3;have K4 := cell_regrown d4;have E1 := cell_regrown e1;have E2 := cell_regrown e2;have E3 := cell_regrown e3;obtain ⟨xn, hxn⟩ : ∃ z, x.name = z := ⟨_, rfl⟩;obtain ⟨xs, hxs⟩ : ∃ z, x.scale = z := ⟨_, rfl⟩;obtain ⟨xt, hxt⟩ : ∃ z, x.tied = z := ⟨_, rfl⟩;rw [hxn, hxs, hxt] at hW1 HW;rw [hxn, hxs, hxt];clear hq hyw hn1 hn2 hn3 hxn hxs hxt hi hLi hz hy hallR hallL hall3 hcell hcell2 hcell3 c2 c3 c4 hb hW1 hv h1 hnp d2;go_enter Tryz.func163, Tryz.ntmps163
  go_wp2_with fail
  rw [<- HW.out];refine wp_region_quiet_below (by kernel_rfl) (by kernel_rfl) ?_;repeat (first | go_big_quiet_step (fail) | quiet_step (fail))
  refine wpQuiet_nil ?_;intro G hG;have hbG : Below W.heap.size W G := by obtain ⟨p, rfl⟩ := hG; exact HB.out _ _
  clear hG;go_wp2
  go_ret
  exact ⟨rfl, hbG⟩
 ·have hq : zu address R L x = address := by unfold zu; rw [if_neg h1]
  rw [hq];obtain ⟨kd, hkd⟩ : ∃ kd : Int, (x.kind : Int) = kd := ⟨_, rfl⟩;rw [hkd] at f1 hW1 HW h1 ⊢;have g : (kd == 1) = false := by simp [h1]
  have K2 := d2;rw [hW1] at d2;clear hq h1 hv hkd hb hW1 d3 d4 f2 c2 c3 c4;go_enter Tryz.func163, Tryz.ntmps163
  go_wp2
  go_ret
  exact ⟨rfl, by rw [<- HW.out]; exact HB1.out⟩
end Go.Proofs.YtdmadnfadgggcaaGreatDoor
