import Derived.Test.YtdmadnfadgggcaaGreatDoorGk
set_option linter.unusedVariables false
set_option linter.unusedSimpArgs false
set_option warningAsError false
set_option maxHeartbeats 1000000
open Go.Lib (hid)
open Go.Proofs.Tryz (prog)
namespace Go.Proofs.YtdmadnfadgggcaaGreatDoor
open Go.RowKit Go.Instr Go.Sort
set_option maxRecDepth 100000
theorem zf.takes {α : Type} {n : Nat} {E : World -> List Value -> α -> Prop} {w : World} {A : Option Addr} {N c : Nat} {L : List α} (h : zf n E w (.slice A N c) L) (i : Nat) (hi : i <= L.length) : zf n E w (.slice A i c) (L.take i) := by
 obtain ⟨A', c', h1, h2, h3, h4, h5⟩ := h;obtain ⟨rfl, rfl, rfl⟩ : A = A' /\ N = L.length /\ c = c' := by cases h1; exact ⟨rfl, rfl, rfl⟩
 have hl : (L.take i).length = i := by rw [List.length_take]; omega
 refine ⟨A, c, by rw [hl], by omega, by omega, h4, fun j x hx => ?_⟩;have hj : j < i := by have := (List.getElem?_eq_some_iff.1 hx).1; omega
 exact h5 j x (by rw [List.getElem?_take, if_pos hj] at hx; exact hx)
theorem nePc (s : ByteArray) : (!(s.toList == [112, 99])) = decide (s ≠ z1a) := by
 have hp : z1a.toList = [112, 99] := by rw [ByteArray.toList_eq]; rfl
 have h : (s.toList = [112, 99]) ↔ (s = z1a) := by
  constructor
  ·intro h
   cases s with
   | mk d =>
     have e : d.toList = [112, 99] := (by rw [<- h]; exact (ByteArray.toList_eq _).symm);unfold z1a
     congr
     exact Array.toList_inj.1 e
  ·intro h; subst h; exact hp
 by_cases hs : s = z1a
 ·subst hs;simp [hp]
 ·have h2 : ¬ s.toList = [112, 99] := fun q => hs (h.1 q);simp [hs, h2]
theorem ze6 (p : MPiece) (word : Int) (hw : 1 <= word /\ word <= 4) (h : zv word p = true) : 1 <= p.len /\ p.len <= 32 /\ 0 <= p.pos /\ p.pos <= 31 := by unfold zv at h;simp at h;omega
theorem zch (W : World) (a0 a1 : Value) : ∀ B, W.heap.size = B -> (W.alloc (.cells #[a0, a1] 172)).heap[B]? = some (.cells #[a0, a1] 172) := by rintro _ rfl;exact heap_alloc_new _ _
theorem z5q (W : World) (a0 a1 a2 a3 a4 a5 : Value) : ∀ B, W.heap.size = B -> (W.alloc (.cells #[a0, a1, a2, a3, a4, a5] 86)).heap[B]? = some (.cells #[a0, a1, a2, a3, a4, a5] 86) := by rintro _ rfl;exact heap_alloc_new _ _
theorem z5f (W : World) (k : Nat) (m : Mach) (sr sb su si wm : Value) (bad : Bool) (hC : ChkAt W k m sr sb su si wm bad) (hadr : 0 <= m.address /\ m.address <= 1000) (hword : 1 <= m.word /\ m.word <= 4)
 (V : World) (hVk : V.heap.size <= k) (hVW : Below V.heap.size V W) (hL : zf 2 z1m V sb m.banks) (hpos : ∀ x ∈ m.banks, 0 < x.regs.length) (x : MIns) (cs : List Value) (hE : insE V cs x) (hlen : x.opers.length <= 1000) (hpl : ∀ o ∈ x.opers, o.pieces.length <= 1000) :
 Calls prog 162 #[.pointer (some ⟨k, 0, none⟩), .agg cs.toArray] W fun e w' => e = .returned (.tuple #[]) /\ Then8 k W w' (bad || !(z3a m.word m.address m.banks x.mask x.opers)) := by
 have hk := hC.lt;obtain ⟨so, se, rfl, _, hmask, _, hO0, _⟩ := hE;have HO := hid hO0;obtain ⟨A, c, rfl, hn1, hn2, hn3, _⟩ := hO0;obtain ⟨R, hRR⟩ : ∃ R, x.opers = R := ⟨_, rfl⟩;rw [hRR] at HO hlen hpl hn1 hn2 ⊢;obtain ⟨n, hn⟩ : ∃ n, R.length = n := ⟨_, rfl⟩;have HN := hid hn;have hn4 : n <= 9223372036854775807 := by omega
 clear hn3;rw [hn] at HO hn1 hn2;have HC := hid hC;obtain ⟨CS, hCS⟩ : ∃ CS : Array Value, CS = #[.string x.name, .int .u64 (x.mask : Nat), .int .u64 (x.mtch : Nat), .slice A n c, se, .int .i64 x.unit, .int .i64 x.busy, .int .i64 x.lat, .int .i64 x.slots] := ⟨_, rfl⟩;obtain ⟨W0, hW0⟩ : ∃ W0, W0 = W.alloc (.cells CS 83) := ⟨_, rfl⟩;have hb0 : Below W.heap.size W W0 := by rw [hW0]; exact (Below.refl _ _).alloc (Nat.le_refl _) _
 have hblk0 : W0.heap[W.heap.size]? = some (.cells CS 83) := by rw [hW0]; exact heap_alloc_new _ _
 have i1 : W0.cell? ⟨W.heap.size, 1, none⟩ = some (.int .u64 (x.mask : Nat)) := zb hblk0 (by rw [hCS]; rfl);have i3 : W0.cell? ⟨W.heap.size, 3, none⟩ = some (.slice A n c) := zb hblk0 (by rw [hCS]; rfl);rw [hW0] at i1 i3;have hsz : ∀ x, x ∈ R -> x.name.size <= maxLen := fun x hx => by obtain ⟨i, hi⟩ := List.mem_iff_getElem?.1 hx;obtain ⟨A', c', _, _, _, _, hall⟩ := HO.out;obtain ⟨b, o, cs, _, _, _, _, hE⟩ := hall i x hi;exact (by obtain ⟨_, _, h, _⟩ := hE; exact h)
 show Calls prog 162 #[.pointer (some ⟨k, 0, none⟩), .agg #[.string x.name, .int .u64 (x.mask : Nat), .int .u64 (x.mtch : Nat), .slice A R.length c, se, .int .i64 x.unit, .int .i64 x.busy, .int .i64 x.lat, .int .i64 x.slots]] W _;rw [hn, <- hCS];have hC0 := hC.later hb0;have hk0 := hC0.lt;have HT0 := hid (Then8.grown hb0 hk hC.c8 hC.fz);have hVs : V.heap.size <= W.heap.size := hVW.size;have hkW0 : Below V.heap.size V W0 := hVW.trans (hb0.mono hVs);have HKL := hid (show ∀ X, Below V.heap.size V X -> zf 2 z1m X sb m.banks from fun X hX => hL.kept (fun cs x hx => z1m.kept hx hX) hX);have HKO := hid (show ∀ X, Below V.heap.size V X -> zf 6 z1g X (.slice A n c) R from fun X hX => HO.out.kept (fun cs x hx => z1g.kept hx hX) hX);have HC0 := hid hC0;have HPOS := hid hpos;have HPL := hid hpl;have HKW := hid hkW0;obtain ⟨q, hq⟩ : ∃ q, zq [] (R.map fun x => x.name) = q := ⟨_, rfl⟩;have iN : Calls prog 170 #[.slice A n c, .func (.func 171) #[] #[]] W0 fun e w'' => e = .returned (.bool q) /\ Below W0.heap.size W0 w'' := by rw [<- hq];exact zcc _ R _ (HKO.out _ hkW0) hlen _ z76 (fun x => x.name) hsz (zag _ _)
 obtain ⟨b0, hb0'⟩ : ∃ b0, (bad || !q) = b0 := ⟨_, rfl⟩
 have hM : ∀ X, Below W0.heap.size W0 X -> Calls prog 135 #[.pointer (some ⟨k, 0, none⟩), .slice (some ⟨X.heap.size, 0, none⟩) 1 1] (X.alloc (.cells #[.bool q] 4)) fun e w' => e = .returned (.tuple #[]) /\ Then8 k W0 w' b0 /\ w'.heap[W.heap.size]? = some (.cells CS 83) := fun X hX =>
  (must1 X k m sr sb su si wm bad (hC0.later hX) _).mono fun e w' ⟨h1, h2⟩ => by rw [hb0'] at h2;have t := (Then8.grown hX hk0 hC0.c8 hC0.fz).trans h2;refine ⟨h1, t, ?_⟩;rw [t.block _ (by rw [hW0]; simp) (by omega)];exact hblk0
 obtain ⟨r, hr⟩ : ∃ r, (bad || !(z3a m.word m.address m.banks x.mask R)) = r := ⟨_, rfl⟩;have HG := hid (show (b0 || !(z2n m.word m.address m.banks (R.take 0) x.mask (R.drop 0))) = r by rw [<- hr, <- hb0', List.drop_zero, List.take_zero];unfold z3a;rw [hq];cases bad <;> cases q <;> simp)
 rw [hr];have HB0 := hid (show ∀ w' : World, w'.heap[W.heap.size]? = some (.cells CS 83) -> w'.cell? ⟨W.heap.size, 1, none⟩ = some (.int .u64 (x.mask : Nat)) /\ w'.cell? ⟨W.heap.size, 3, none⟩ = some (.slice A n c) from fun w' h => ⟨zb h (by rw [hCS]; rfl), zb h (by rw [hCS]; rfl)⟩);have HBK := hid (show ∀ (b : Bool) (w' : World), Then8 k W0 w' b -> w'.cell? ⟨W.heap.size, 3, none⟩ = some (.slice A n c) from fun b w' h => by
  have e : w'.heap[W.heap.size]? = some (.cells CS 83) := by rw [h.block _ (by rw [hW0]; simp) (by omega)]; exact hblk0
  exact (HB0.out _ e).2)
 have HMK := hid hmask;rw [hW0] at iN;have IN := hid iN;have HM := hid hM;have HW0 := hid hW0;obtain ⟨MK, hMK⟩ : ∃ MK, x.mask = MK := ⟨_, rfl⟩;rw [hMK] at i1 HG HB0 HMK;clear hC hC0 hL hpos hpl hb0 hblk0 hsz hq hb0' hr hRR hn hM iN hCS hW0 hMK hmask hkW0 hlen;go_enter Tryz.func162, Tryz.ntmps162
 go_wp2_with (first
  | (go_at_call 170; (with_reducible refine IN.out.mono ?_); rintro e X ⟨rfl, hbX⟩)
  | (go_at_call 135; (with_reducible refine (HM.out X (by rw [HW0.out]; exact hbX)).mono ?_); rintro e w5 ⟨rfl, hT, g0⟩; obtain ⟨g1, g3⟩ := HB0.out _ g0))
 have HTT := hid hT;clear hT hbX g0 g1 g3 i1 i3;go_loopw [4, 21] (fun vt vi wr => ∃ (tk i : Nat), vt = .int .u64 tk /\ vi = .int .i64 i /\ i <= n /\ Hid (tk < 18446744073709551616 /\ ∃ b, Then8 k W0 wr b /\ (b || !(z2n m.word m.address m.banks (R.take i) tk (R.drop i))) = r)) (fun _ vi _ => n - (intOf vi).toNat)
 case atStart => exact ⟨MK, 0, rfl, rfl, Nat.zero_le _, hid ⟨HMK.out, b0, HTT.out, HG.out⟩⟩
 case round =>
  obtain ⟨tk, i, rfl, rfl, hi, HI⟩ := hrel;obtain ⟨htk, bi, hT, hbi⟩ := HI.out;by_cases hlt : i < n
  ·obtain ⟨y, hy⟩ : ∃ x, R[i]? = some x := ⟨_, List.getElem?_eq_getElem (by rw [HN.out]; exact hlt)⟩;have hbk : Below V.heap.size V wr := HKW.out.trans (hT.below hVk (Nat.le_trans hVk (Nat.le_of_lt hk0)));obtain ⟨A', c', e1, _, _, _, hall⟩ := HO.out;obtain ⟨b, o, cs, e2, hb, hcl, hcell, hE⟩ := hall i y hy;obtain ⟨rfl, rfl⟩ : A = A' /\ c = c' := by cases e1; exact ⟨rfl, rfl⟩
   subst e2;have HE := hid hE;obtain ⟨sp, rfl, _, _, _, _, hsp, _⟩ := hE;have p0 : wr.cell? ⟨b, o + i * 6, none⟩ = some (.string y.name) := (hbk.cell (p := ⟨b, o + i * 6, none⟩) hb).trans (by simpa using hcell 0 _ rfl);have p1 : wr.cell? ⟨b, o + i * 6 + 1, none⟩ = some (.int .u8 (y.kind : Nat)) := (hbk.cell (p := ⟨b, o + i * 6 + 1, none⟩) hb).trans (hcell 1 _ rfl);have p2 : wr.cell? ⟨b, o + i * 6 + 2, none⟩ = some (.int .i64 y.bank) := (hbk.cell (p := ⟨b, o + i * 6 + 2, none⟩) hb).trans (hcell 2 _ rfl);have p3 : wr.cell? ⟨b, o + i * 6 + 3, none⟩ = some (.int .i64 y.scale) := (hbk.cell (p := ⟨b, o + i * 6 + 3, none⟩) hb).trans (hcell 3 _ rfl);have p4 : wr.cell? ⟨b, o + i * 6 + 4, none⟩ = some sp := (hbk.cell (p := ⟨b, o + i * 6 + 4, none⟩) hb).trans (hcell 4 _ rfl);have p5 : wr.cell? ⟨b, o + i * 6 + 5, none⟩ = some (.int .i64 y.tied) := (hbk.cell (p := ⟨b, o + i * 6 + 5, none⟩) hb).trans (hcell 5 _ rfl);have hCw := hT.chk HC0.out;have hkw := hCw.lt;have m3 := HBK.out _ _ hT;have HSP := hid hsp;obtain ⟨Ap, cp, rfl, hp1, hp2, hp3, _⟩ := hsp;obtain ⟨PL, hPL⟩ : ∃ l, y.pieces = l := ⟨_, rfl⟩;rw [hPL] at p4 hp1 hp2 HSP;obtain ⟨np, hnp⟩ : ∃ l, PL.length = l := ⟨_, rfl⟩;rw [hnp] at p4 hp1 hp2 HSP;obtain ⟨W1, hW1⟩ : ∃ W1, W1 = wr.alloc (.cells #[.string y.name, .int .u8 (y.kind : Nat), .int .i64 y.bank, .int .i64 y.scale, .slice Ap np cp, .int .i64 y.tied] 86) := ⟨_, rfl⟩;have HW := hid hW1;have hb1 : Below wr.heap.size wr W1 := by rw [hW1]; exact (Below.refl _ _).alloc (Nat.le_refl _) _
   have hblk1 := z5q wr (.string y.name) (.int .u8 (y.kind : Nat)) (.int .i64 y.bank) (.int .i64 y.scale) (.slice Ap np cp) (.int .i64 y.tied) _ rfl;rw [<- hW1] at hblk1;have f0 : W1.cell? ⟨wr.heap.size, 0, none⟩ = some (.string y.name) := zb hblk1 rfl;have f1 : W1.cell? ⟨wr.heap.size, 1, none⟩ = some (.int .u8 (y.kind : Nat)) := zb hblk1 rfl;have f2 : W1.cell? ⟨wr.heap.size, 2, none⟩ = some (.int .i64 y.bank) := zb hblk1 rfl;have f3 : W1.cell? ⟨wr.heap.size, 3, none⟩ = some (.int .i64 y.scale) := zb hblk1 rfl;have f4 : W1.cell? ⟨wr.heap.size, 4, none⟩ = some (.slice Ap np cp) := zb hblk1 rfl;have f5 : W1.cell? ⟨wr.heap.size, 5, none⟩ = some (.int .i64 y.tied) := zb hblk1 rfl;have d3 : W1.cell? ⟨W.heap.size, 3, none⟩ = some (.slice (some ⟨b, o, none⟩) n c) := by have hl0 : W0.heap.size = W.heap.size + 1 := (by rw [HW0.out]; simp);have hl : W.heap.size < wr.heap.size := (by have := hT.size; omega);rw [hb1.cell (p := ⟨W.heap.size, 3, none⟩) hl];exact m3
   have F0 := cell_regrown f0;have F1 := cell_regrown f1;have F2 := cell_regrown f2;have F3 := cell_regrown f3;have F4 := cell_regrown f4;have F5 := cell_regrown f5;have D3 := cell_regrown d3;have hbX : ∀ X, Below W1.heap.size W1 X -> Below wr.heap.size wr X := fun X hX => hb1.trans (hX.mono hb1.size);have hWX : ∀ X, Below W1.heap.size W1 X -> Below V.heap.size V X := fun X hX => hbk.trans ((hbX X hX).mono hbk.size);obtain ⟨t, ht⟩ : ∃ t, z4l m.address m.banks (R.take i) y = t := ⟨_, rfl⟩;have iP : ∀ d os, Calls prog 172 #[.pointer (some ⟨k, 0, none⟩), .agg #[.string y.name, .int .u8 (y.kind : Nat), .int .i64 y.bank, .int .i64 y.scale, .slice Ap np cp, .int .i64 y.tied], .slice (some ⟨b, o, none⟩) i c] (grow (redrawn W1 d) os) fun e w'' => e = .returned (.bool t) /\ ∃ p : Regrown, w'' = grow (redrawn W1 p.d) p.os := fun d os => Calls.regrown_of (by rw [<- ht];have hX := below_regrown W1 d os;have hcx := hCw.later (hbX _ hX);have h := z81 _ k m.address m.banks (R.take i) (.slice (some ⟨b, o, none⟩) i c) sb hcx.lt hcx.c2 hadr hcx.c4 (HKL.out _ (hWX _ hX)) HPOS.out ((HKO.out _ (hWX _ hX)).takes i (by rw [HN.out]; omega)) y [.string y.name, .int .u8 (y.kind : Nat), .int .i64 y.bank, .int .i64 y.scale, .slice Ap y.pieces.length cp, .int .i64 y.tied] (HE.out.kept (hWX _ hX)) (HPL.out y (List.mem_of_getElem? hy));rw [hPL, hnp] at h;exact h)
   have IP := hid iP
   have HM2 := hid (show ∀ (g : Bool) X, Below W1.heap.size W1 X -> Calls prog 135 #[.pointer (some ⟨k, 0, none⟩), .slice (some ⟨X.heap.size, 0, none⟩) 2 2] (X.alloc (.cells #[.bool g, .bool t] 4)) fun e w' => e = .returned (.tuple #[]) /\ Then8 k W0 w' (bi || !(g && t)) /\ w'.cell? ⟨wr.heap.size, 4, none⟩ = some (.slice Ap np cp) from fun g X hX =>
    (must2 X k m sr sb su si wm bi (hCw.later (hbX X hX)) _ _).mono fun e w' ⟨h1, h2⟩ => ⟨h1, hT.trans ((Then8.grown (hbX X hX) hkw hCw.c8 hCw.fz).trans h2), by
      have e1 : w'.heap[wr.heap.size]? = W1.heap[wr.heap.size]? := by have hl : wr.heap.size < W1.heap.size := (by rw [hW1]; simp);rw [h2.block _ (Nat.lt_of_lt_of_le hl hX.size) (by omega), hX.block _ hl]
      exact zb (e1.trans hblk1) rfl⟩)
   have hpm := HPL.out y (List.mem_of_getElem? hy);have HD := hid (show (bi || !(((decide (y.name ≠ z1a)) && t) && ((z1p m.word tk PL).1 && z2n m.word m.address m.banks (R.take (i + 1)) (z1p m.word tk PL).2 (R.drop (i + 1))))) = r by
    rw [<- hbi];have hd : R.drop i = y :: R.drop (i + 1) := by
     rw [List.drop_eq_getElem_cons (by rw [HN.out]; exact hlt)]
     congr 1
     exact Option.some.inj ((List.getElem?_eq_getElem _).symm.trans hy)
    have htk2 : R.take (i + 1) = R.take i ++ [y] := (by rw [List.take_add_one, hy]; rfl);rw [hd, z2n, htk2, hPL, ht])
   have HLT := hid hlt;have HTK := hid htk;have HPN := hid hnp;have hnp4 : np <= 9223372036854775807 := Nat.le_trans hp1 (by decide);have hin : (i : Int) < (n : Int) := by omega
   have hic : (i : Int) <= (c : Int) := by omega
   obtain ⟨YN, hYN⟩ : ∃ z, y.name = z := ⟨_, rfl⟩;obtain ⟨yk, hyk⟩ : ∃ z : Int, (y.kind : Int) = z := ⟨_, rfl⟩;obtain ⟨yb, hyb⟩ : ∃ z, y.bank = z := ⟨_, rfl⟩;obtain ⟨ys, hys⟩ : ∃ z, y.scale = z := ⟨_, rfl⟩;obtain ⟨yt, hyt⟩ : ∃ z, y.tied = z := ⟨_, rfl⟩;rw [hYN] at p0 f0 F0 HW IP HD;rw [hyk] at p1 f1 F1 HW IP;rw [hyb] at p2 f2 F2 HW IP;rw [hys] at p3 f3 F3 HW IP;rw [hyt] at p5 f5 F5 HW IP;clear iP ht hbi hT hCw hbk hbX hWX hall hcell hcl hy HI e1 hb1 hW1 hYN hyk hyb hys hyt HE hblk1 hPL hnp htk hpm m3 hp3;go_wp2_with fail
   rw [<- HW.out];refine zi 10 (.pointer (some ⟨k, 0, none⟩)) (by kernel_rfl) (by kernel_rfl) (fun _ _ _ h => h) rfl (fun _ => rfl) ?_;simp only [List.take_succ_cons, List.take_zero, List.drop_succ_cons, List.drop_zero];repeat (first | go_big_quiet_step (with_reducible exact IP.out _ _) | quiet_step (with_reducible exact IP.out _ _))
   refine wpQuiet_nil ?_;intro X hX;have hbX : Below W1.heap.size W1 X := by obtain ⟨p, rfl⟩ := hX; exact below_regrown _ _ _
   clear hX;go_wp2_with (go_at_call 135; (with_reducible refine (HM2.out _ X hbX).mono ?_); rintro e w5 ⟨rfl, hT5, g4⟩)
   have HT5 := hid hT5;rw [nePc] at HT5;obtain ⟨g, hg⟩ : ∃ g, decide (YN ≠ z1a) = g := ⟨_, rfl⟩;rw [hg] at HT5 HD;clear hT5 hbX p0 p1 p2 p3 p4 p5 f0 f1 f2 f3 f4 f5 F0 F1 F2 F3 F4 F5 d3 D3 hg;go_loopw [4, 42] (fun vt vj wr2 => ∃ (tk j : Nat), vt = .int .u64 tk /\ vj = .int .i64 j /\ j <= np /\ Hid (tk < 18446744073709551616 /\ ∃ b, Then8 k W0 wr2 b /\ (b || !((z1p m.word tk (PL.drop j)).1 && z2n m.word m.address m.banks (R.take (i + 1)) (z1p m.word tk (PL.drop j)).2 (R.drop (i + 1)))) = r)) (fun _ vj _ => np - (intOf vj).toNat)
   case atStart => exact ⟨tk, 0, rfl, rfl, Nat.zero_le _, hid ⟨HTK.out, _, HT5.out, by rw [<- HD.out, List.drop_zero]; cases bi <;> cases g <;> cases t <;> simp⟩⟩
   case round =>
    obtain ⟨tk2, j, rfl, rfl, hj, HJ⟩ := hrel;obtain ⟨htk2, bj, hTj, hbj⟩ := HJ.out;by_cases hltj : j < np
    ·obtain ⟨pc, hpc⟩ : ∃ x, PL[j]? = some x := ⟨_, List.getElem?_eq_getElem (by rw [HPN.out]; exact hltj)⟩;have hbk2 : Below V.heap.size V wr := HKW.out.trans (hTj.below hVk (Nat.le_trans hVk (Nat.le_of_lt hk0)));obtain ⟨A2, c2', e2, _, _, _, hall2⟩ := HSP.out;obtain ⟨b2, o2, cs2, e3, hb2, hcl2, hcell2, hE2⟩ := hall2 j pc hpc;obtain ⟨rfl, rfl⟩ : Ap = A2 /\ cp = c2' := by cases e2; exact ⟨rfl, rfl⟩
     subst e3;have HE2 := hid hE2;obtain ⟨rfl, _⟩ := hE2;have p0 : wr.cell? ⟨b2, o2 + j * 2, none⟩ = some (.int .i64 pc.pos) := (hbk2.cell (p := ⟨b2, o2 + j * 2, none⟩) hb2).trans (by simpa using hcell2 0 _ rfl);have p1 : wr.cell? ⟨b2, o2 + j * 2 + 1, none⟩ = some (.int .i64 pc.len) := (hbk2.cell (p := ⟨b2, o2 + j * 2 + 1, none⟩) hb2).trans (hcell2 1 _ rfl);have hCj := hTj.chk HC0.out;have hkj := hCj.lt;have hb3 := (Below.refl wr.heap.size wr).alloc (Nat.le_refl _) (.cells #[.int .i64 pc.pos, .int .i64 pc.len] 172);have hl3 : wr.heap.size < (wr.alloc (.cells #[.int .i64 pc.pos, .int .i64 pc.len] 172)).heap.size := (by simp);have hblk3 := zch wr (.int .i64 pc.pos) (.int .i64 pc.len) _ rfl;have hgot := HPL.out;have HIP := hid ((zaa (wr.alloc (.cells #[.int .i64 pc.pos, .int .i64 pc.len] 172)) k m.word (hCj.later hb3).lt (hCj.later hb3).c1 hword pc [.int .i64 pc.pos, .int .i64 pc.len] HE2.out).mono (R' := fun e w' => e = .returned (.bool (zv m.word pc)) /\ Below wr.heap.size wr w' /\ w'.heap[wr.heap.size]? = some (.cells #[.int .i64 pc.pos, .int .i64 pc.len] 172)) fun e w' ⟨h1, h2⟩ => ⟨h1, hb3.trans (h2.mono hb3.size), (h2.block _ hl3).trans hblk3⟩)
     have HM3 := hid (show ∀ (g : Bool) X, Below wr.heap.size wr X -> Calls prog 135 #[.pointer (some ⟨k, 0, none⟩), .slice (some ⟨X.heap.size, 0, none⟩) 1 1] (X.alloc (.cells #[.bool g] 4)) fun e w' => e = .returned (.tuple #[]) /\ Then8 k W0 w' (bj || !g) from fun g X hX =>
      (must1 X k m sr sb su si wm bj (hCj.later hX) _).mono fun e w' ⟨h1, h2⟩ => ⟨h1, hTj.trans ((Then8.grown hX hkj hCj.c8 hCj.fz).trans h2)⟩)
     have hdj : PL.drop j = pc :: PL.drop (j + 1) := by
      rw [List.drop_eq_getElem_cons (by rw [HPN.out]; exact hltj)]
      congr 1
      exact Option.some.inj ((List.getElem?_eq_getElem _).symm.trans hpc)
     rw [hdj, z1p] at hbj;have HLJ := hid hltj;have HTK2 := hid htk2;have hjn : (j : Int) < (np : Int) := by omega
     cases hq : zv m.word pc with
     | false =>
       rw [hq] at HIP hbj;have hr1 : r = true := (by rw [<- hbj]; simp);have HR1 := hid hr1;clear hq hbj hr1 hdj hblk3 hl3 hb3 hCj hkj hall2 hcell2 hpc HE2 e2 hTj hgot HJ hbk2 htk2 HC0;obtain ⟨pp, hpp⟩ : ∃ z, pc.pos = z := ⟨_, rfl⟩;obtain ⟨pl, hpl⟩ : ∃ z, pc.len = z := ⟨_, rfl⟩;rw [hpp, hpl] at HIP;rw [hpp] at p0;rw [hpl] at p1;clear hpp hpl
       go_wp2_with (first
        | (go_at_call 173; (with_reducible refine HIP.out.mono ?_); rintro e w6 ⟨rfl, hb6, _⟩)
        | (go_at_call 135; (with_reducible refine (HM3.out _ w6 hb6).mono ?_); rintro e w7 ⟨rfl, hT7⟩))
       exact bodyPost_ret (v := .tuple #[]) (by simp [results, Tryz.results162, go_sem]) rfl ⟨rfl, by rw [HR1.out]; have := HT0.out.trans hT7; simpa using this⟩
     | true =>
       rw [hq] at HIP hbj;obtain ⟨l1, l32, q0, q31⟩ := ze6 pc m.word hword hq;obtain ⟨pl, hpl⟩ : ∃ z : Nat, pc.len = z := ⟨pc.len.toNat, by omega⟩;obtain ⟨pp, hpp⟩ : ∃ z : Nat, pc.pos = z := ⟨pc.pos.toNat, by omega⟩;have hfd : z4k pc = mk pl * 2 ^ pp % 18446744073709551616 := (by unfold z4k; rw [hpl, hpp]; simp);obtain ⟨fd, hfd2⟩ : ∃ z, z4k pc = z := ⟨_, rfl⟩;have HFD := hid (hfd.symm.trans hfd2);have hfl : fd < 18446744073709551616 := (by rw [<- hfd2, hfd]; exact Nat.mod_lt _ (by decide));rw [hfd2] at hbj;have HBJ := hid hbj;have HFL := hid hfl;have HMK2 := hid (fun w => z4z pl w (by omega) (by omega));have hpp0 : (0 : Int) <= (pp : Int) := (by omega);have hpp64 : (pp : Int) < 64 := (by omega);have hpp65 : pp < 64 := (by omega);rw [hpp, hpl] at HIP;rw [hpp] at p0;rw [hpl] at p1;clear hq hbj hdj hblk3 hl3 hb3 hCj hkj hall2 hcell2 hpc HE2 e2 hTj hgot HJ hbk2 htk2 l1 l32 q0 q31 hfd hfd2 hfl hpl hpp
       go_wp2_with (first
        | (go_at_call 173; (with_reducible refine HIP.out.mono ?_); rintro e w6 ⟨rfl, hb6, hk6⟩; have k0 := zb hk6 (i := 0) (v := .int .i64 pp) rfl; have k1 := zb hk6 (i := 1) (v := .int .i64 pl) rfl))
       have KK0 := cell_regrown k0;have KK1 := cell_regrown k1;have iMK : ∀ d os, Calls prog 49 #[.int .i64 pl] (grow (redrawn w6 d) os) fun e w'' => e = .returned (.int .u64 (mk pl : Nat)) /\ ∃ p : Regrown, w'' = grow (redrawn w6 p.d) p.os := fun d os => zh (HMK2.out _);have IMK := hid iMK;have HB6 := hid hb6;clear iMK hb6 hk6;refine wp_region_quiet_below (by kernel_rfl) (by kernel_rfl) ?_;repeat (first | go_big_quiet_step (with_reducible exact IMK.out _ _) | quiet_step (with_reducible exact IMK.out _ _))
       refine wpQuiet_nil ?_;intro G hG;have hbG : Below w6.heap.size w6 G := (by obtain ⟨p, rfl⟩ := hG; exact below_regrown _ _ _);clear hG;have hsh : IntKind.u64.wrap (((mk pl : Nat) : Int) * 2 ^ pp) = ((fd : Nat) : Int) := by rw [<- HFD.out, IntKind.wrap_u64, show (((mk pl : Nat) : Int) * 2 ^ pp) = ((mk pl * 2 ^ pp : Nat) : Int) by rw [Int.natCast_mul, Int.natCast_pow]; rfl];generalize mk pl * 2 ^ pp = z;omega
       rw [hsh];have hand : bits .and .u64 (tk2 : Int) (fd : Int) = ((tk2 &&& fd : Nat) : Int) := bits_and_u64_nat _ _ HTK2.out HFL.out;have hor : bits .or .u64 (tk2 : Int) (fd : Int) = ((tk2 ||| fd : Nat) : Int) := bits_or_u64_nat _ _ HTK2.out HFL.out;have hol : tk2 ||| fd < 18446744073709551616 := Nat.or_lt_two_pow (n := 64) HTK2.out HFL.out;have HOL := hid hol;have he : ((tk2 &&& fd : Nat) : Int) = 0 ↔ tk2 &&& fd = 0 := (by omega);obtain ⟨gz, hgz⟩ : ∃ z, decide (tk2 &&& fd = 0) = z := ⟨_, rfl⟩;have hbe : (((tk2 &&& fd : Nat) : Int) == 0) = gz := (by rw [<- hgz]; by_cases h : tk2 &&& fd = 0 <;> simp [h]);rw [hgz] at HBJ;obtain ⟨ta, hta⟩ : ∃ z, tk2 &&& fd = z := ⟨_, rfl⟩;obtain ⟨tb, htb⟩ : ∃ z, tk2 ||| fd = z := ⟨_, rfl⟩;rw [hta] at hand hbe;rw [htb] at hor HBJ HOL;have HBG := hid (HB6.out.trans (hbG.mono HB6.out.size));clear hsh hol he hgz hta htb KK0 KK1 k0 k1 hbG;go_wp2_with (go_at_call 135; (with_reducible refine (HM3.out _ G HBG.out).mono ?_); rintro e w7 ⟨rfl, hT7⟩)
       go_roundw
       case rel => exact ⟨tb, j + 1, rfl, by first | rfl | go_num | (congr 1), by have := HLJ.out; omega, hid ⟨HOL.out, _, hT7, by rw [<- HBJ.out]; cases bj <;> cases gz <;> simp⟩⟩
       case measure => simp only [intOf]; have := HLJ.out; omega
    ·obtain rfl : j = np := by omega
     have HLT2 := hid hlt;rw [List.drop_eq_nil_of_le (by rw [HPN.out]; exact Nat.le_refl _)] at hbj;have hbj2 : (bj || !(z2n m.word m.address m.banks (R.take (i + 1)) tk2 (R.drop (i + 1)))) = r := (by rw [<- hbj]; simp [z1p]);have HBJ := hid hbj2;have HTJ := hid hTj;have HTK2 := hid htk2;clear hbj hbj2 hTj htk2;go_wp2
     go_roundw
     case rel => exact ⟨tk2, i + 1, rfl, by first | rfl | go_num | (congr 1), by have := HLT2.out; omega, hid ⟨HTK2.out, _, HTJ.out, HBJ.out⟩⟩
     case measure => simp only [intOf]; have := HLT2.out; omega
  ·obtain rfl : i = n := by omega
   rw [List.drop_eq_nil_of_le (by rw [HN.out]; exact Nat.le_refl _)] at hbi;obtain rfl : bi = r := by simpa [z2n] using hbi
   go_wp2
   exact bodyPost_end (v := .tuple #[]) (by simp [results, Tryz.results162, go_sem]) rfl ⟨rfl, HT0.out.trans hT⟩
structure Then7 (k B : Nat) (W W' : World) (b : Bool) : Prop where
 os : W'.os = W.os
 tape : W'.tape = W.tape
 output : W'.output = W.output
 size : W.heap.size <= W'.heap.size
 block : ∀ i, i < W.heap.size -> i ≠ k -> i ≠ B -> W'.heap[i]? = W.heap[i]?
 cell : ∀ j, j ≠ 8 -> W'.cell? ⟨k, j, none⟩ = W.cell? ⟨k, j, none⟩
 c8 : W'.cell? ⟨k, 8, none⟩ = some (.bool b)
 fz : W'.frozen? ⟨k, 8, none⟩ = false
theorem Then8.to7 {k : Nat} {W W' : World} {b : Bool} (B : Nat) (h : Then8 k W W' b) : Then7 k B W W' b := ⟨h.os, h.tape, h.output, h.size, fun i hi hk _ => h.block i hi hk, h.cell, h.c8, h.fz⟩
theorem Then7.trans {k B : Nat} {W W' W'' : World} {b b' : Bool} (h : Then7 k B W W' b) (h' : Then7 k B W' W'' b') : Then7 k B W W'' b' :=
 ⟨h'.os.trans h.os, h'.tape.trans h.tape, h'.output.trans h.output, Nat.le_trans h.size h'.size, fun i hi hn hB => (h'.block i (Nat.lt_of_lt_of_le hi h.size) hn hB).trans (h.block i hi hn hB), fun j hj => (h'.cell j hj).trans (h.cell j hj), h'.c8, h'.fz⟩
theorem Then7.below {k B n : Nat} {W W' : World} {b : Bool} (h : Then7 k B W W' b) (hn : n <= k) (hB : n <= B) (hs : n <= W.heap.size) : Below n W W' :=
 ⟨h.os, h.tape, h.output, h.size, fun i hi => h.block i (by omega) (by omega) (by omega)⟩
theorem Then7.chk {k B : Nat} {W W' : World} {b bad : Bool} {m : Mach} {sr sb su si wm : Value} (h : Then7 k B W W' b) (hC : ChkAt W k m sr sb su si wm bad) : ChkAt W' k m sr sb su si wm b :=
 ⟨(h.cell 0 (by decide)).trans hC.c0, (h.cell 1 (by decide)).trans hC.c1, (h.cell 2 (by decide)).trans hC.c2, (h.cell 3 (by decide)).trans hC.c3, (h.cell 4 (by decide)).trans hC.c4, (h.cell 5 (by decide)).trans hC.c5, (h.cell 6 (by decide)).trans hC.c6, (h.cell 7 (by decide)).trans hC.c7, h.c8, h.fz, Nat.lt_of_lt_of_le hC.lt h.size⟩
theorem z4v {W W' : World} {k : Nat} (h : W'.heap[k]? = W.heap[k]?) (j : Nat) : W'.cell? ⟨k, j, none⟩ = W.cell? ⟨k, j, none⟩ := by simp [World.cell?, h]
theorem z41 {W W' : World} {k : Nat} (h : W'.heap[k]? = W.heap[k]?) (j : Nat) : W'.frozen? ⟨k, j, none⟩ = W.frozen? ⟨k, j, none⟩ := by simp [World.frozen?, h]
theorem Then7.turned {k B : Nat} {W W' : World} {b : Bool} (h : W.mapTurned W' B) (hkB : k ≠ B) (hc : W.cell? ⟨k, 8, none⟩ = some (.bool b)) (hf : W.frozen? ⟨k, 8, none⟩ = false) : Then7 k B W W' b := by
 obtain ⟨es, clock, es', clock', h1, rfl⟩ := h;have hb : ∀ i, i ≠ B -> (ChangeMaps.setBlock W B (.map es' clock')).heap[i]? = W.heap[i]? := fun i hi => by show (W.heap.setIfInBounds B _)[i]? = _;rw [Array.getElem?_setIfInBounds, if_neg (Ne.symm hi)]
 exact ⟨rfl, rfl, rfl, by show _ <= (W.heap.setIfInBounds B _).size; simp, fun i _ _ hB => hb i hB, fun j _ => z4v (hb k hkB) j, by rw [z4v (hb k hkB)]; exact hc, by rw [z41 (hb k hkB)]; exact hf⟩
theorem zh6 (X : World) (bs : List Bool) (h : bs.length <= 100) (t : TypeId) : zf 1 z65 (X.alloc (.cells (bs.map Value.bool).toArray t)) (.slice (some ⟨X.heap.size, 0, none⟩) bs.length bs.length) bs := by
 refine ⟨_, _, rfl, by simp [maxLen]; omega, by simp, by simp [maxLen]; omega, fun i x hx => ⟨X.heap.size, 0, [.bool x], rfl, by simp, rfl, fun j u hj => ?_, rfl⟩⟩
 cases j with
 | succ j => simp at hj
 | zero => simp at hj;subst hj;simp only [World.cell?];rw [heap_alloc_new];simp [hx]
theorem zhj (X : World) (k : Nat) (m : Mach) (sr sb su si wm : Value) (bad : Bool) (hC : ChkAt X k m sr sb su si wm bad) (bs : List Bool) (h : bs.length <= 100) :
 Calls prog 135 #[.pointer (some ⟨k, 0, none⟩), .slice (some ⟨X.heap.size, 0, none⟩) bs.length bs.length] (X.alloc (.cells (bs.map Value.bool).toArray 4)) fun e w' => e = .returned (.tuple #[]) /\ Then8 k X w' (bad || !(bs.all id)) := by
 have hb : Below X.heap.size X (X.alloc (.cells (bs.map Value.bool).toArray 4)) := (Below.refl _ _).alloc (Nat.le_refl _) _;have hl := hC.later hb;refine (z3o k bad _ bs _ (zh6 X bs h 4) hl.c8 hl.fz).mono fun e w' ⟨h1, h2⟩ => ⟨h1, ?_⟩;rw [h2];exact Then8.set _ hb hC.lt hC.c8 hC.fz
theorem z8o {address : Int} {R : List MReg} {L : List MBank} {others : List MOper} {o : MOper} (h : z4l address L others o = true) (hL : ∀ b ∈ L, z2i R b = true) : z4t R L o := by
 intro hk;have hk' : o.kind = 1 := by omega
 unfold z4l at h;rw [if_pos hk'] at h;by_cases h0 : 0 <= o.bank
 ·rw [if_pos h0] at h
  cases hb : L[o.bank.toNat]? with
  | none => rw [hb] at h; simp at h
  | some b =>
    have hok := hL b (List.mem_of_getElem? hb);unfold z2i z7d at hok;simp only [Bool.and_eq_true, decide_eq_true_eq] at hok;obtain ⟨hp, ha⟩ := hok
    cases hr : b.regs with
    | nil => rw [hr] at hp; simp at hp
    | cons z l => rw [hr] at ha;simp only [z1n, Bool.and_eq_true, decide_eq_true_eq] at ha;obtain ⟨⟨hz, hzn⟩, _⟩ := ha.1;refine ⟨o.bank.toNat, z.toNat, b, R[z.toNat]'(by omega), by omega, hb, by rw [hr]; simp; omega, List.getElem?_eq_getElem _⟩
 ·rw [if_neg h0] at h; simp at h
theorem z3q {word address : Int} {L : List MBank} : ∀ (ops others : List MOper) (tk : Nat), z2n word address L others tk ops = true -> ∀ o ∈ ops, o.name ≠ z1a /\ ∃ oth, z4l address L oth o = true := by
 intro ops
 induction ops with
 | nil => intro _ _ _ o ho; simp at ho
 | cons x l ih =>
   intro others tk h o ho;simp only [z2n, Bool.and_eq_true, decide_eq_true_eq] at h;rcases List.mem_cons.1 ho with rfl | ho
   ·exact ⟨h.1.1, others, h.1.2⟩
   ·exact ih _ _ h.2.2 o ho
theorem z5o : ∀ (l met : List ByteArray), zq met l = true -> ∀ s ∈ l, z1t s = true := by
 intro l
 induction l with
 | nil => intro _ _ s hs; simp at hs
 | cons x l ih =>
   intro met h s hs;simp only [zq, Bool.and_eq_true] at h;rcases List.mem_cons.1 hs with rfl | hs
   ·exact h.1.2
   ·exact ih _ h.2 s hs
theorem z7o (address : Int) (R : List MReg) (L : List MBank) (K : ByteArray -> Int) (l : List MOper) (o : MOper) : z2y address R L K (l ++ [o]) = putK (z2y address R L K l) o.name (zu address R L o) := by unfold z2y;rw [List.foldl_append];rfl
theorem z4r (address : Int) (R : List MReg) (L : List MBank) (K : ByteArray -> Int) (s : ByteArray) : ∀ (l : List MOper), s ∉ l.map (fun o => o.name) -> z2y address R L K l s = K s := by refine z57 (P := fun l => s ∉ l.map (fun o => o.name) -> z2y address R L K l s = K s) (fun _ => rfl) (fun l o ih h => ?_);rw [z7o];unfold putK;rw [if_neg (fun q => h (by rw [q]; simp)), ih (fun q => h (by rw [List.map_append]; exact List.mem_append_left _ q))]
theorem z5l {K : ByteArray -> Int} {D : DataW Unit} (h : z1o K D) (s : ByteArray) (z : Int) : z1o (putK K s z) (D.put (z1b s) (.lit (.int .i64 z))) := ⟨h.1.put _ _, fun u => by
 unfold putK;by_cases hu : u = s
 ·subst hu;rw [Maps.atKey_put_same h.1 (z5i _), if_pos rfl]
 ·rw [Maps.atKey_put_other (fun q => hu (z4p q)), h.2 u, if_neg hu]⟩
theorem zc3 {K : ByteArray -> Int} {D : DataW Unit} (h : z1o K D) (s : ByteArray) (hm : Maps.IsMap (D.del (z1b s))) : z1o (putK K s 0) (D.del (z1b s)) := ⟨hm, fun u => by
 unfold putK;by_cases hu : u = s
 ·subst hu;rw [Maps.atKey_del_same, if_pos rfl]
 ·rw [Maps.atKey_del_other (fun q => hu (z4p q)), h.2 u, if_neg hu]⟩
theorem z6n {W W' : World} {B n : Nat} {D : DataW Unit} (h : W.ownsMap prog 9 (plainElem prog 3) B n D) (e : W'.heap[B]? = W.heap[B]?) : W'.ownsMap prog 9 (plainElem prog 3) B n D := by obtain ⟨es, clock, h1, h2⟩ := h;exact ⟨es, clock, e.trans h1, h2⟩
theorem zde (K : ByteArray -> Int) : z74 K [] = K := by funext s; simp [z74]
theorem zbr (K : ByteArray -> Int) (l : List MOper) (o : MOper) : z74 K (l ++ [o]) = putK (z74 K l) o.name 0 := by
 funext s;unfold z74 putK;by_cases h1 : s = o.name
 ·rw [if_pos h1, if_pos (by rw [h1]; simp)]
 ·rw [if_neg h1];show _ = (if s ∈ l.map (fun o => o.name) then 0 else K s);by_cases h2 : s ∈ l.map (fun o => o.name)
  ·rw [if_pos (by rw [List.map_append]; exact List.mem_append_left _ h2), if_pos h2]
  ·rw [if_neg (by rw [List.map_append, List.mem_append]; simp only [List.map_cons, List.map_nil, List.mem_singleton]; exact fun q => q.elim h2 h1), if_neg h2]
theorem za3 {address : Int} {R : List MReg} {L : List MBank} {K : ByteArray -> Int} {l : List MOper} (h : ∀ o ∈ l, K o.name = 0) : z74 (z2y address R L K l) l = K := by
 funext s;unfold z74;by_cases hs : s ∈ l.map (fun o => o.name)
 ·rw [if_pos hs];obtain ⟨o, ho, rfl⟩ := List.mem_map.1 hs;exact (h o ho).symm
 ·rw [if_neg hs, z4r _ _ _ _ _ _ hs]
theorem zcp {W : World} {v : Value} {R : List MReg} (hR : zf 4 regE W v R) {address : Int} (ha : 0 <= address /\ address <= 1000) {L : List MBank} (y : MOper) : (Lit.int .i64 (zu address R L y)).wf = true := by
 have h : -9223372036854775808 <= zu address R L y /\ zu address R L y <= 9223372036854775807 := by
  have hw : ∀ z, -9223372036854775808 <= zx R z /\ zx R z <= 9223372036854775807 := fun z => by
   unfold zx
   cases hz : R[z.toNat]? with
   | none => simp
   | some r => obtain ⟨A, c, _, _, _, _, hall⟩ := hR;obtain ⟨b, o, cs, _, _, _, _, hE⟩ := hall _ r hz;exact hE.2.2.1
  unfold zu;split
  ·split
   ·exact hw _
   ·simp
  ·omega
 simp [Lit.wf, IntKind.min, IntKind.max, IntKind.bits, IntKind.signed];omega
end Go.Proofs.YtdmadnfadgggcaaGreatDoor
