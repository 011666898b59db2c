import Derived.Test.YtdmadnfadgggcaaGreatDoorGf
import Derived.Deep.RegionHeld3
import Derived.StillTailTactics
import Derived.Lib.QuietBelow
import Derived.Deep.QuietTactic
import Derived.BigQuiet
set_option linter.unusedVariables false
set_option linter.unusedSimpArgs false
set_option warningAsError false
set_option maxHeartbeats 4000000
open Go.Lib (hid)
open Go.Proofs.Tryz (prog)
noncomputable section
namespace Go.Proofs.YtdmadnfadgggcaaGreatDoor
open Go.RowKit Go.Instr
set_option maxRecDepth 100000
def z65 (w : World) (cs : List Value) (b : Bool) : Prop := cs = [.bool b]
theorem z65.kept {w w' : World} {cs : List Value} {b : Bool} (h : z65 w cs b) (hb : Below w.heap.size w w') : z65 w' cs b := h
theorem zdu (v : Value) (L : List Bool) (w : World) (hR : zf 1 z65 w v L) :
 Calls prog 165 #[v, .bool false] w fun e w' => e = .returned (.int .i64 (ixF (fun b => !b) L)) /\ w = w' := by
 have HR := hid hR;obtain ⟨A, c, rfl, hn1, _, _, _⟩ := hR;obtain ⟨n, hn⟩ : ∃ n, L.length = n := ⟨_, rfl⟩;have HN := hid hn;have hmx : maxLen <= 9223372036854775807 := by decide
 rw [hn] at hn1 ⊢;have hn2 : n <= 9223372036854775807 := Nat.le_trans hn1 hmx;clear hn1 hmx hn;go_enter Tryz.func165, Tryz.ntmps165
 go_wp2
 go_loopw [5, 8] (fun _ v wr => ∃ i : Nat, v = .int .i64 i /\ i <= n /\ wr = w /\ Hid (∀ j y, j < i -> L[j]? = some y -> (!y) = false)) (fun _ v _ => n - (intOf v).toNat)
 case atStart => exact ⟨0, rfl, Nat.zero_le _, rfl, hid (fun j y hj => absurd hj (Nat.not_lt_zero _))⟩
 case round =>
  obtain ⟨i, rfl, hi, rfl, HI⟩ := hrel;by_cases hlt : i < n
  ·obtain ⟨x, hx⟩ : ∃ x, L[i]? = some x := ⟨_, List.getElem?_eq_getElem (by rw [HN.out]; exact hlt)⟩;obtain ⟨A', c', e1, _, _, _, hall⟩ := HR.out;obtain ⟨b, o, cs, e2, hb, hcl, hcell, hE⟩ := hall i x hx;obtain ⟨rfl, rfl⟩ : A = A' /\ c = c' := by cases e1; exact ⟨rfl, rfl⟩
   subst e2;obtain rfl : cs = [.bool x] := hE;have c0 : wr.cell? ⟨b, o + i, none⟩ = some (.bool x) := by have := hcell 0 _ rfl; simpa using this
   have HX := hid hx;have HLT := hid hlt;clear hall hcell hx e1
   cases x with
   | false =>
     go_wp2
     go_ret
     exact ⟨by rw [z32 (p := fun b => !b) HX.out rfl HI.out]; rfl, rfl⟩
   | true =>
     go_wp2
     go_roundw
     case rel =>
      refine ⟨i + 1, by first | rfl | go_num | (congr 1), by have := HLT.out; omega, by trivial, hid (fun j y hj hy => ?_)⟩;by_cases e : j = i
      ·subst e;rw [HX.out] at hy;obtain rfl := Option.some.inj hy;rfl
      ·exact HI.out j y (by omega) hy
     case measure => simp only [intOf]; have := HLT.out; omega
  ·obtain rfl : i = n := by omega
   go_wp2
   go_ret
   exact ⟨by rw [z2d (p := fun b => !b) (by rw [HN.out]; exact HI.out)]; rfl, rfl⟩
theorem zgp (L : List Bool) : (L.any fun b => !b) = !(L.all id) := by
 induction L with
 | nil => rfl
 | cons b l ih => cases b <;> simp_all
theorem zbq (v : Value) (L : List Bool) (w : World) (hR : zf 1 z65 w v L) :
 Calls prog 151 #[v, .bool false] w fun e w' => e = .returned (.bool (!(L.all id))) /\ w = w' := by
 have HC := hid (zdu v L w hR);rw [<- zgp, <- z5k (fun b => !b) L];clear hR;go_enter Tryz.func151, Tryz.ntmps151
 go_wp2_with (go_at_call 165; (with_reducible refine HC.out.mono ?_); rintro e w1 ⟨rfl, rfl⟩)
 go_ret
 exact ⟨rfl, rfl⟩
theorem z3o (k : Nat) (bad : Bool) (v : Value) (L : List Bool) (w : World) (hR : zf 1 z65 w v L) (hk : w.cell? ⟨k, 8, none⟩ = some (.bool bad)) (hfz : w.frozen? ⟨k, 8, none⟩ = false) :
 Calls prog 135 #[.pointer (some ⟨k, 0, none⟩), v] w fun e w' => e = .returned (.tuple #[]) /\ w' = w.setCell ⟨k, 8, none⟩ (.bool (bad || !(L.all id))) := by
 have HC := hid (zbq v L w hR);obtain ⟨q, hq⟩ : ∃ q, (!(L.all id)) = q := ⟨_, rfl⟩;rw [hq] at HC ⊢;clear hR hq
 cases bad with
 | true =>
   go_enter Tryz.func135, Tryz.ntmps135
   go_wp2
   exact bodyPost_end (v := .tuple #[]) (by simp [results, Tryz.results135, go_sem]) rfl ⟨rfl, rfl⟩
 | false =>
   go_enter Tryz.func135, Tryz.ntmps135
   go_wp2_with (go_at_call 151; (with_reducible refine HC.out.mono ?_); rintro e w1 ⟨rfl, rfl⟩)
   exact bodyPost_end (v := .tuple #[]) (by simp [results, Tryz.results135, go_sem]) rfl ⟨rfl, rfl⟩
structure ChkAt (w : World) (k : Nat) (m : Mach) (sr sb su si wm : Value) (bad : Bool) : Prop where
 c0 : w.cell? ⟨k, 0, none⟩ = some (.string m.name)
 c1 : w.cell? ⟨k, 1, none⟩ = some (.int .i64 m.word)
 c2 : w.cell? ⟨k, 2, none⟩ = some (.int .i64 m.address)
 c3 : w.cell? ⟨k, 3, none⟩ = some sr
 c4 : w.cell? ⟨k, 4, none⟩ = some sb
 c5 : w.cell? ⟨k, 5, none⟩ = some su
 c6 : w.cell? ⟨k, 6, none⟩ = some si
 c7 : w.cell? ⟨k, 7, none⟩ = some wm
 c8 : w.cell? ⟨k, 8, none⟩ = some (.bool bad)
 fz : w.frozen? ⟨k, 8, none⟩ = false
 lt : k < w.heap.size
def z31 (m : Mach) : Bool := z1t m.name && (decide (1 <= m.word /\ m.word <= 4) && decide (m.address = 16 ∨ m.address = 32))
theorem bools3 (X : World) (a b c : Bool) (t : TypeId) : zf 1 z65 (X.alloc (.cells #[.bool a, .bool b, .bool c] t)) (.slice (some ⟨X.heap.size, 0, none⟩) 3 3) [a, b, c] := by
 refine ⟨_, _, rfl, by simp [maxLen], by simp, by simp [maxLen], fun i x hx => ⟨X.heap.size, 0, [.bool x], rfl, by simp, rfl, fun j u hj => ?_, rfl⟩⟩
 cases j with
 | succ j => simp at hj
 | zero =>
   simp at hj;subst hj;simp only [World.cell?];rw [heap_alloc_new]
   match i, hx with
   | 0, hx => simp at hx; subst hx; rfl
   | 1, hx => simp at hx; subst hx; rfl
   | 2, hx => simp at hx; subst hx; rfl
   | i + 3, hx => simp at hx
theorem ChkAt.later {w w' : World} {k : Nat} {m : Mach} {sr sb su si wm : Value} {bad : Bool} (h : ChkAt w k m sr sb su si wm bad) (hb : Below w.heap.size w w') : ChkAt w' k m sr sb su si wm bad :=
 ⟨by rw [hb.cell h.lt]; exact h.c0, by rw [hb.cell h.lt]; exact h.c1, by rw [hb.cell h.lt]; exact h.c2, by rw [hb.cell h.lt]; exact h.c3, by rw [hb.cell h.lt]; exact h.c4, by rw [hb.cell h.lt]; exact h.c5, by rw [hb.cell h.lt]; exact h.c6, by rw [hb.cell h.lt]; exact h.c7, by rw [hb.cell h.lt]; exact h.c8, by rw [hb.frozen h.lt]; exact h.fz, Nat.lt_of_lt_of_le h.lt hb.size⟩
theorem zdt (w : World) (k : Nat) (m : Mach) (sr sb su si wm : Value) (hC : ChkAt w k m sr sb su si wm false) (q0 q1 q2 : Bool) (h0 : z1t m.name = q0) (h1 : decide (1 <= m.word /\ m.word <= 4) = q1) (h2 : (m.address = 16 /\ q2 = true) ∨ (m.address = 32 /\ q2 = true) ∨ (¬ m.address = 16 /\ ¬ m.address = 32 /\ q2 = false)) :
 Calls prog 109 #[.pointer (some ⟨k, 0, none⟩)] w fun e w' => e = .returned (.tuple #[]) /\ ∃ w1, Below w.heap.size w w1 /\ w' = w1.setCell ⟨k, 8, none⟩ (.bool (false || !([q0, q1, q2].all id))) := by
 have c0 := hC.c0;have c1 := hC.c1;have c2 := hC.c2;have HC := hid hC;have HSB := hid (fun (X : World) (h : Below w.heap.size w X) => (⟨(hC.later h).c0, (hC.later h).c1, (hC.later h).c2⟩ : X.cell? ⟨k, 0, none⟩ = some (.string m.name) /\ X.cell? ⟨k, 1, none⟩ = some (.int .i64 m.word) /\ X.cell? ⟨k, 2, none⟩ = some (.int .i64 m.address)));have HN := hid (fun W => z85 m.name W);have HI := hid (fun W => z2p m.word 1 4 W);rw [h0] at HN;rw [h1] at HI;obtain ⟨r, hr⟩ : ∃ r, (false || !([q0, q1, q2].all id)) = r := ⟨_, rfl⟩;rw [hr]
 have HM := hid (show ∀ (X : World) (h : Below w.heap.size w X), Calls prog 135 #[.pointer (some ⟨k, 0, none⟩), .slice (some ⟨X.heap.size, 0, none⟩) 3 3] (X.alloc (.cells #[.bool q0, .bool q1, .bool q2] 4)) fun e w' => e = .returned (.tuple #[]) /\ (w'.cell? ⟨k, 0, none⟩ = some (.string m.name) /\ w'.cell? ⟨k, 1, none⟩ = some (.int .i64 m.word) /\ w'.cell? ⟨k, 2, none⟩ = some (.int .i64 m.address)) /\ ∃ w1, Below w.heap.size w w1 /\ w' = w1.setCell ⟨k, 8, none⟩ (.bool r) from fun X h =>
  (z3o k false _ [q0, q1, q2] _ (bools3 X q0 q1 q2 4) (hC.later (h.alloc h.size _)).c8 (hC.later (h.alloc h.size _)).fz).mono fun e w' ⟨h1, h2⟩ => by
    rw [hr] at h2;have hl := hC.later (h.alloc h.size (.cells #[.bool q0, .bool q1, .bool q2] 4));refine ⟨h1, ⟨?_, ?_, ?_⟩, _, h.alloc h.size _, h2⟩
    ·rw [h2]; exact (World.cell?_setCell_other _ ⟨k, 8, none⟩ ⟨k, 0, none⟩ _ (by simp)).trans hl.c0
    ·rw [h2]; exact (World.cell?_setCell_other _ ⟨k, 8, none⟩ ⟨k, 1, none⟩ _ (by simp)).trans hl.c1
    ·rw [h2]; exact (World.cell?_setCell_other _ ⟨k, 8, none⟩ ⟨k, 2, none⟩ _ (by simp)).trans hl.c2)
 have HAL := hid (fun (X : World) (h : Below w.heap.size w X) => h.alloc h.size (.cells #[.bool q0, .bool q1, .bool q2] 4));clear hC h0 h1 hr;obtain ⟨s, hs⟩ : ∃ s, m.name = s := ⟨_, rfl⟩;obtain ⟨wd, hwd⟩ : ∃ s, m.word = s := ⟨_, rfl⟩;obtain ⟨ad, had⟩ : ∃ s, m.address = s := ⟨_, rfl⟩;rw [hs] at c0 HSB HN HM;rw [hwd] at c1 HSB HI HM;rw [had] at c2 HSB h2 HM;clear hs hwd had;rcases h2 with ⟨rfl, rfl⟩ | ⟨rfl, rfl⟩ | ⟨n1, n2, rfl⟩
 ·go_enter Tryz.func109, Tryz.ntmps109
  go_wp2_with fail
  first | (go_region_held3 (fun w' => w'.cell? ⟨k, 0, none⟩ = some (.string s) /\ w'.cell? ⟨k, 1, none⟩ = some (.int .i64 wd) /\ w'.cell? ⟨k, 2, none⟩ = some (.int .i64 16))
   (first | (refine HSB.out _ ?_; (repeat (first | assumption | exact Below.refl _ _ | refine Below.drew ?_)); done) | exact ⟨by assumption, by assumption, by assumption⟩ | go_keep)
   (first
     | (go_at_call 136; go_loud ((with_reducible refine (HN.out _).mono ?_); rintro e w3 ⟨rfl, hb3⟩; have hB3 : Below w.heap.size w w3 := Below.trans (by (repeat (first | assumption | exact Below.refl _ _ | refine Below.drew ?_))) (hb3.mono (by (first | assumption | exact Nat.le_refl _ | omega | (simp; done)))); clear hb3; obtain ⟨d0, d1, d2⟩ := HSB.out w3 hB3))
     | (go_at_call 137; go_loud ((with_reducible refine (HI.out _).mono ?_); rintro e w4 ⟨rfl, rfl⟩))
     | (go_at_call 135; go_loud ((with_reducible refine (HM.out _ (by (repeat (first | assumption | exact Below.refl _ _ | refine Below.drew ?_)))).mono ?_); rintro e w5 ⟨rfl, ⟨f0, f1, f2⟩, hE5⟩)))) | fail
  all_goals exact bodyPost_end (v := .tuple #[]) (by simp [results, Tryz.results109, go_sem]) rfl ⟨rfl, hE5⟩
 ·go_enter Tryz.func109, Tryz.ntmps109
  go_wp2_with fail
  first | (go_region_held3 (fun w' => w'.cell? ⟨k, 0, none⟩ = some (.string s) /\ w'.cell? ⟨k, 1, none⟩ = some (.int .i64 wd) /\ w'.cell? ⟨k, 2, none⟩ = some (.int .i64 32))
   (first | (refine HSB.out _ ?_; (repeat (first | assumption | exact Below.refl _ _ | refine Below.drew ?_)); done) | exact ⟨by assumption, by assumption, by assumption⟩ | go_keep)
   (first
     | (go_at_call 136; go_loud ((with_reducible refine (HN.out _).mono ?_); rintro e w3 ⟨rfl, hb3⟩; have hB3 : Below w.heap.size w w3 := Below.trans (by (repeat (first | assumption | exact Below.refl _ _ | refine Below.drew ?_))) (hb3.mono (by (first | assumption | exact Nat.le_refl _ | omega | (simp; done)))); clear hb3; obtain ⟨d0, d1, d2⟩ := HSB.out w3 hB3))
     | (go_at_call 137; go_loud ((with_reducible refine (HI.out _).mono ?_); rintro e w4 ⟨rfl, rfl⟩))
     | (go_at_call 135; go_loud ((with_reducible refine (HM.out _ (by (repeat (first | assumption | exact Below.refl _ _ | refine Below.drew ?_)))).mono ?_); rintro e w5 ⟨rfl, ⟨f0, f1, f2⟩, hE5⟩)))) | fail
  all_goals exact bodyPost_end (v := .tuple #[]) (by simp [results, Tryz.results109, go_sem]) rfl ⟨rfl, hE5⟩
 ·have g1 : (ad == 16) = false := by simp [n1]
  have g2 : (ad == 32) = false := by simp [n2]
  clear n1 n2;go_enter Tryz.func109, Tryz.ntmps109
  go_wp2_with fail
  first | (go_region_held3 (fun w' => w'.cell? ⟨k, 0, none⟩ = some (.string s) /\ w'.cell? ⟨k, 1, none⟩ = some (.int .i64 wd) /\ w'.cell? ⟨k, 2, none⟩ = some (.int .i64 ad))
   (first | (refine HSB.out _ ?_; (repeat (first | assumption | exact Below.refl _ _ | refine Below.drew ?_)); done) | exact ⟨by assumption, by assumption, by assumption⟩ | go_keep)
   (first
     | (go_at_call 136; go_loud ((with_reducible refine (HN.out _).mono ?_); rintro e w3 ⟨rfl, hb3⟩; have hB3 : Below w.heap.size w w3 := Below.trans (by (repeat (first | assumption | exact Below.refl _ _ | refine Below.drew ?_))) (hb3.mono (by (first | assumption | exact Nat.le_refl _ | omega | (simp; done)))); clear hb3; obtain ⟨d0, d1, d2⟩ := HSB.out w3 hB3))
     | (go_at_call 137; go_loud ((with_reducible refine (HI.out _).mono ?_); rintro e w4 ⟨rfl, rfl⟩))
     | (go_at_call 135; go_loud ((with_reducible refine (HM.out _ (by (repeat (first | assumption | exact Below.refl _ _ | refine Below.drew ?_)))).mono ?_); rintro e w5 ⟨rfl, ⟨f0, f1, f2⟩, hE5⟩)))) | fail
  all_goals exact bodyPost_end (v := .tuple #[]) (by simp [results, Tryz.results109, go_sem]) rfl ⟨rfl, hE5⟩
theorem zfm (w : World) (k : Nat) (m : Mach) (sr sb su si wm : Value) (hC : ChkAt w k m sr sb su si wm false) :
 Calls prog 109 #[.pointer (some ⟨k, 0, none⟩)] w fun e w' => e = .returned (.tuple #[]) /\ ∃ w1, Below w.heap.size w w1 /\ w' = w1.setCell ⟨k, 8, none⟩ (.bool (!(z31 m))) := by
 have h := zdt w k m sr sb su si wm hC (z1t m.name) (decide (1 <= m.word /\ m.word <= 4)) (decide (m.address = 16 ∨ m.address = 32)) rfl rfl (by
  by_cases a : m.address = 16
  ·exact Or.inl ⟨a, by simp [a]⟩
  ·by_cases b : m.address = 32
   ·exact Or.inr (Or.inl ⟨b, by simp [b]⟩)
   ·exact Or.inr (Or.inr ⟨a, b, by simp [a, b]⟩))
 have e : (false || !([z1t m.name, decide (1 <= m.word /\ m.word <= 4), decide (m.address = 16 ∨ m.address = 32)].all id)) = !(z31 m) := by simp [z31, List.all_cons]
 rw [e] at h;exact h
end Go.Proofs.YtdmadnfadgggcaaGreatDoor
namespace Go.Proofs.YtdmadnfadgggcaaGreatDoor
open Go Go.RowKit Go.Sort
section
variable {P : Program} {ops : Array Oper} {md : Region.Mode} {C : World -> Prop}
def z8k (P : Program) (md : Region.Mode) (ops : Array Oper) (C : World -> Prop) (n : Nat) (L : Array Bool -> Act -> Prop) : Nat -> Array Bool -> Act -> Prop
 | 0, listed, a => L listed a
 | f + 1, listed, a => Region.ready md ops listed ≠ [] /\ ∀ i ∈ Region.ready md ops listed, i < n /\ qOp P ops C i (z8k P md ops C n L f (listed.setIfInBounds i true)) a
theorem z5t {n g : Nat} {L : Array Bool -> Act -> Prop} {Q' : Exit -> Act -> World -> Prop} (hL : ∀ listed a w, C w -> L listed a -> wpAny P md ops Q' g listed a w) :
 ∀ (f : Nat) (listed : Array Bool) (a : Act) (w : World), C w -> z8k P md ops C n L f listed a -> wpAny P md ops Q' (f + g) listed a w := by
 intro f
 induction f with
 | zero => intro listed a w hw h; rw [Nat.zero_add]; exact hL _ _ _ hw h
 | succ f ih => intro listed a w hw h;rw [show f + 1 + g = (f + g) + 1 by omega];exact ⟨fun h0 => absurd h0 h.1, fun i hi => wpOp_of_qOp hw (fun a' w' hw' h' => ih _ a' w' hw' h') (h.2 i hi).2⟩
theorem za7 {n i : Nat} {oi : Oper} {v : Value} {L : Array Bool -> Act -> Prop} (hi : ops[i]? = some oi) (hsel : ∀ (j : Nat) (o : Oper) cs b, ops[j]? = some o -> o.op ≠ .select cs b)
 (hs : Region.sinkB md ops n = true) (hc : Region.chainB md ops n = true) (hn : n < ops.size) (hin : i < n)
 (hdone : ∀ listed a, L listed a -> ∀ j ∈ Region.ready md ops listed, n <= j) (f : Nat) : ∀ (listed : Array Bool) (a : Act), HeadInv md ops n listed ->
   (∀ j oj, ops[j]? = some oj -> j ≠ i -> listed.getD j true = false -> (∀ e ∈ oj.after, Region.binds md e = true -> e.on ≠ i) -> oi.apart ops oj = true) ->
   i ∈ Region.ready md ops listed -> YieldsIn P ops C oi v a ->
   z8k P md ops C n L f (listed.setIfInBounds i true) (a.put oi.dst v) -> z8k P md ops C n L (f + 1) listed a := by
 induction f with
 | zero =>
   intro listed a inv _ hr hy H;refine ⟨fun h => (by rw [h] at hr; cases hr), fun j hj => ?_⟩;have hjn : j < n := by
    rcases Nat.lt_or_ge j n with h | h
    ·exact h
    ·exact absurd hj (tail_waits hs hc hn inv _ i rfl hin (mem_ready.1 hr).1 j h)
   refine ⟨hjn, ?_⟩;by_cases hji : j = i
   ·subst hji; exact hy.qOp hi H
   ·have := hdone _ _ H j (ready_mono hj hji)
    omega
 | succ f ih =>
   intro listed a inv hfree hr hy H;refine ⟨fun h => (by rw [h] at hr; cases hr), fun j hj => ?_⟩;have hjn : j < n := by
    rcases Nat.lt_or_ge j n with h | h
    ·exact h
    ·exact absurd hj (tail_waits hs hc hn inv _ i rfl hin (mem_ready.1 hr).1 j h)
   refine ⟨hjn, ?_⟩;by_cases hji : j = i
   ·subst hji; exact hy.qOp hi H
   ·obtain ⟨hjun, oj, hoj, hall⟩ := mem_ready.1 hj;have hnot : ∀ e ∈ oj.after, Region.binds md e = true -> e.on ≠ i := fun e he hb heq => by
     have h1 := hall e he hb;rw [heq, getD_both (mem_ready.1 hr).1] at h1;cases h1
    have h2 := qOp_put hoj (hfree j oj hoj hji hjun hnot) (fun cs b => hsel i oi cs b hi) (fun cs b => hsel j oj cs b hoj) hy (H.2 j (ready_mono hj hji)).2;refine qOp_mono (fun a' h3 => ih (listed.setIfInBounds j true) a' (inv.set hj hjn) (fun k ok hk hki hun hno => hfree k ok hk hki ?_ hno) (ready_mono hr (Ne.symm hji)) h3.1 ?_) h2
    ·by_cases hjk : j = k
     ·subst hjk; exact hjun
     ·rw [getD_set_ne true hjk] at hun; exact hun
    ·rw [Array.setIfInBounds_comm _ _ hji];exact h3.2
theorem zds {n g : Nat} {Lq : Act -> Prop} (hsel : Region.noSelect ops = true) (hs : Region.sinkB md ops n = true) (hc : Region.chainB md ops n = true) (hn : n < ops.size) :
 ∀ (l : List Oper) (k : Nat) (listed : Array Bool) (a : Act), (∀ j, j < l.length -> l[j]? = ops[k + j]?) -> k + l.length = n -> HeadInv md ops n listed ->
 Region.lexHead md ops g l.length k listed = true -> wpQuiet P ops C Lq l a ->
 z8k P md ops C n (fun listed' a' => Region.seqB md ops g n listed' = true /\ Lq a') l.length listed a := by
 intro l
 induction l with
 | nil =>
   intro k listed a hl hk _ hB h;obtain rfl : k = n := by simpa using hk
   exact ⟨by simpa [Region.lexHead] using hB, h⟩
 | cons o l ih =>
   intro k listed a hl hk inv hB h;have h0 : ops[k]? = some o := by simpa using (hl 0 (by simp)).symm
   simp only [List.length_cons, Region.lexHead, Bool.and_eq_true] at hB;obtain ⟨⟨hr, hf⟩, hB'⟩ := hB;have hkn : k < n := by simp only [List.length_cons] at hk; omega
   have hr' : k ∈ Region.ready md ops listed := by simpa using hr
   have hq : qOp P ops C k (wpQuiet P ops C Lq l) a := by unfold qOp; simp only [h0]; exact h
   obtain ⟨v, hy, hK⟩ := yieldsIn_of_qOp h0 hq
   exact za7 h0 (Region.noSelect_spec hsel) hs hc hn hkn (fun listed' a' hL => seqB_ready hL.1) l.length listed a inv (Region.free_spec h0 hf) hr' hy
    (ih (k + 1) _ _ (fun j hj => by have := hl (j + 1) (by simp; omega); simpa [Nat.add_assoc, Nat.add_comm 1 j] using this) (by simp only [List.length_cons] at hk; omega) (inv.set hr' hkn) hB' hK)
theorem z4h {id : Nat} {Q : Exit -> Act -> World -> Prop} {a : Act} {w : World} {l : List Oper} (n : Nat) (hm : P.follows .mixedOrders = true) (hC : C { w with drawn := w.drawn + 1 }) (hB : Region.lexTailB .any l.toArray n = true)
 (h : wpQuiet P l.toArray C (fun a' => ∀ w', C w' -> wpList P l.toArray Q (l.drop n) a' w') (l.take n) a) : (Code.region id l.toArray true).wp P Q a w := by
 simp only [Region.lexTailB, Bool.and_eq_true, decide_eq_true_eq] at hB;obtain ⟨⟨⟨⟨hsel, hn⟩, hs⟩, hc⟩, hlex⟩ := hB;have hn' : n < l.length := by simpa using hn
 have htl : (l.take n).length = n := by simp; omega
 have hdl : (l.drop n).length = l.toArray.size - n := by simp
 have inv0 : HeadInv .any l.toArray n (Array.replicate l.toArray.size false) :=
  ⟨by simp, fun j oj _ hl => (by rw [getD_replicate_false] at hl; cases hl), fun t _ ht => getD_in (by simpa using ht) (getD_replicate_false _ _)⟩
 have H := zds (md := .any) (g := l.toArray.size - n) hsel hs hc hn (l.take n) 0 _ a (fun j hj => by
  have hj' : j < n := by rw [htl] at hj; exact hj
  simp [hj']) (by simpa using htl) inv0 (by rw [htl]; exact hlex) h
 refine wp_region_any hm ?_;have := z5t (Q' := Q) (g := l.toArray.size - n) (fun listed a' w' hw hL => by
  have := wpAny_of_seq (md := .any) (Q' := Q) (l.drop n) n listed a' w' (fun j => by simp [List.getElem?_drop]) (by rw [hdl]; exact hL.1) (hL.2 w' hw)
  rwa [hdl] at this) _ _ _ _ hC H
 rw [htl, show n + (l.toArray.size - n) = l.toArray.size by omega] at this;exact this
theorem z1q {id : Nat} {Q : Exit -> Act -> World -> Prop} {a : Act} {w : World} {l : List Oper} (n : Nat) (hm : P.follows .mixedOrders = true) (hB : Region.lexTailB .any l.toArray n = true)
 (h : wpQuiet P l.toArray (fun w' => ∃ p : Regrown, w' = grow (redrawn w p.d) p.os) (fun a' => ∀ w', (∃ p : Regrown, w' = grow (redrawn w p.d) p.os) -> wpList P l.toArray Q (l.drop n) a' w') (l.take n) a) : (Code.region id l.toArray true).wp P Q a w :=
 z4h n hm ⟨⟨w.drawn + 1, #[]⟩, by rw [grow_empty]; rfl⟩ hB h
def zbb (ops : Array Oper) (n : Nat) : Bool := (List.range n).all fun i => decide (i = 0) || (List.range (n + 1)).any fun j => decide (i < j) && Region.waitsFor .any ops j i
def zew (ops : Array Oper) (n : Nat) : Bool :=
 Region.noSelect ops && decide (n < ops.size) && zbb ops n && Region.chainB .any ops n && decide (0 < n) && (Region.ready .any ops (Array.replicate ops.size false)).contains 0 && Region.free .any ops (Array.replicate ops.size false) 0 &&
  Region.lexHead .any ops (ops.size - n) (n - 1) 1 ((Array.replicate ops.size false).setIfInBounds 0 true)
theorem z6v {n : Nat} {listed : Array Bool} (hs : zbb ops n = true) (hc : Region.chainB .any ops n = true) (hn : n < ops.size) (inv : HeadInv .any ops n listed) :
 ∀ (d i : Nat), n - i = d -> i < n -> 0 < i -> listed.getD i true = false -> ∀ t, n <= t -> t ∉ Region.ready .any ops listed := by
 intro d
 induction d using Nat.strongRecOn with
 | _ d ih =>
   intro i hd hi hi0 hun t ht hr;obtain ⟨_, ot, hot, hall⟩ := mem_ready.1 hr;have htlt : t < ops.size := (Array.getElem?_eq_some_iff.1 hot).1;by_cases htn : t = n
   ·subst htn;have h1 := List.all_eq_true.1 hs i (List.mem_range.2 hi);rw [show decide (i = 0) = false by simp; omega, Bool.false_or] at h1;obtain ⟨j, hj, hj2⟩ := List.any_eq_true.1 h1;simp only [Bool.and_eq_true, decide_eq_true_eq] at hj2;obtain ⟨oj, hoj, e, he, hb, hon⟩ := Region.waitsFor_spec hj2.2;have hjle : j <= t := (by have := List.mem_range.1 hj; omega);by_cases hjt : j = t
    ·subst hjt;obtain rfl : oj = ot := Option.some.inj (hoj.symm.trans hot);have h2 := hall e he hb;rw [hon, getD_both hun] at h2;cases h2
    ·cases hl : listed.getD j false with
     | true =>
       have h2 := inv.closed j oj hoj hl e he hb;rw [hon, getD_both hun] at h2
       cases h2
     | false => exact ih (t - j) (by omega) j rfl (by omega) (by omega) (getD_in (by rw [inv.size]; omega) hl) t (Nat.le_refl _) hr
   ·have h1 := List.all_eq_true.1 hc t (List.mem_range.2 htlt);simp only [Bool.or_eq_true, decide_eq_true_eq] at h1;rcases h1 with h1 | h1
    ·omega
    ·obtain ⟨o', ho', e, he, hb, hon⟩ := Region.waitsFor_spec h1;obtain rfl : o' = ot := Option.some.inj (ho'.symm.trans hot);have h2 := hall e he hb;rw [hon, getD_both (inv.tail (t - 1) (by omega) (by omega))] at h2;cases h2
theorem z8x {n i : Nat} {oi : Oper} {v : Value} {L : Array Bool -> Act -> Prop} (hi : ops[i]? = some oi) (hsel : ∀ (j : Nat) (o : Oper) cs b, ops[j]? = some o -> o.op ≠ .select cs b)
 (hs : zbb ops n = true) (hc : Region.chainB .any ops n = true) (hn : n < ops.size) (hin : i < n) (hi0 : 0 < i)
 (hdone : ∀ listed a, L listed a -> ∀ j ∈ Region.ready .any ops listed, n <= j) (f : Nat) : ∀ (listed : Array Bool) (a : Act), HeadInv .any ops n listed ->
   (∀ j oj, ops[j]? = some oj -> j ≠ i -> listed.getD j true = false -> (∀ e ∈ oj.after, Region.binds .any e = true -> e.on ≠ i) -> oi.apart ops oj = true) ->
   i ∈ Region.ready .any ops listed -> YieldsIn P ops C oi v a ->
   z8k P .any ops C n L f (listed.setIfInBounds i true) (a.put oi.dst v) -> z8k P .any ops C n L (f + 1) listed a := by
 induction f with
 | zero =>
   intro listed a inv _ hr hy H;refine ⟨fun h => (by rw [h] at hr; cases hr), fun j hj => ?_⟩;have hjn : j < n := by
    rcases Nat.lt_or_ge j n with h | h
    ·exact h
    ·exact absurd hj (z6v hs hc hn inv _ i rfl hin hi0 (mem_ready.1 hr).1 j h)
   refine ⟨hjn, ?_⟩;by_cases hji : j = i
   ·subst hji; exact hy.qOp hi H
   ·have := hdone _ _ H j (ready_mono hj hji)
    omega
 | succ f ih =>
   intro listed a inv hfree hr hy H;refine ⟨fun h => (by rw [h] at hr; cases hr), fun j hj => ?_⟩;have hjn : j < n := by
    rcases Nat.lt_or_ge j n with h | h
    ·exact h
    ·exact absurd hj (z6v hs hc hn inv _ i rfl hin hi0 (mem_ready.1 hr).1 j h)
   refine ⟨hjn, ?_⟩;by_cases hji : j = i
   ·subst hji; exact hy.qOp hi H
   ·obtain ⟨hjun, oj, hoj, hall⟩ := mem_ready.1 hj;have hnot : ∀ e ∈ oj.after, Region.binds .any e = true -> e.on ≠ i := fun e he hb heq => by
     have h1 := hall e he hb;rw [heq, getD_both (mem_ready.1 hr).1] at h1;cases h1
    have h2 := qOp_put hoj (hfree j oj hoj hji hjun hnot) (fun cs b => hsel i oi cs b hi) (fun cs b => hsel j oj cs b hoj) hy (H.2 j (ready_mono hj hji)).2;refine qOp_mono (fun a' h3 => ih (listed.setIfInBounds j true) a' (inv.set hj hjn) (fun k ok hk hki hun hno => hfree k ok hk hki ?_ hno) (ready_mono hr (Ne.symm hji)) h3.1 ?_) h2
    ·by_cases hjk : j = k
     ·subst hjk; exact hjun
     ·rw [getD_set_ne true hjk] at hun; exact hun
    ·rw [Array.setIfInBounds_comm _ _ hji];exact h3.2
theorem zbw {n g : Nat} {Lq : Act -> Prop} (hsel : Region.noSelect ops = true) (hs : zbb ops n = true) (hc : Region.chainB .any ops n = true) (hn : n < ops.size) :
 ∀ (l : List Oper) (k : Nat) (listed : Array Bool) (a : Act), 0 < k -> (∀ j, j < l.length -> l[j]? = ops[k + j]?) -> k + l.length = n -> HeadInv .any ops n listed ->
 Region.lexHead .any ops g l.length k listed = true -> wpQuiet P ops C Lq l a ->
 z8k P .any ops C n (fun listed' a' => Region.seqB .any ops g n listed' = true /\ Lq a') l.length listed a := by
 intro l
 induction l with
 | nil =>
   intro k listed a h1 hl hk _ hB h;obtain rfl : k = n := by simpa using hk
   exact ⟨by simpa [Region.lexHead] using hB, h⟩
 | cons o l ih =>
   intro k listed a h1 hl hk inv hB h;have h0 : ops[k]? = some o := by simpa using (hl 0 (by simp)).symm
   simp only [List.length_cons, Region.lexHead, Bool.and_eq_true] at hB;obtain ⟨⟨hr, hf⟩, hB'⟩ := hB;have hkn : k < n := by simp only [List.length_cons] at hk; omega
   have hr' : k ∈ Region.ready .any ops listed := by simpa using hr
   have hq : qOp P ops C k (wpQuiet P ops C Lq l) a := by unfold qOp; simp only [h0]; exact h
   obtain ⟨v, hy, hK⟩ := yieldsIn_of_qOp h0 hq
   exact z8x h0 (Region.noSelect_spec hsel) hs hc hn hkn h1 (fun listed' a' hL => seqB_ready hL.1) l.length listed a inv (Region.free_spec h0 hf) hr' hy
    (ih (k + 1) _ _ (by omega) (fun j hj => by have := hl (j + 1) (by simp; omega); simpa [Nat.add_assoc, Nat.add_comm 1 j] using this) (by simp only [List.length_cons] at hk; omega) (inv.set hr' hkn) hB' hK)
theorem z49 {id : Nat} {Q : Exit -> Act -> World -> Prop} {a : Act} {w : World} {o : Oper} {l : List Oper} (n : Nat) (v : Value) (hm : P.follows .mixedOrders = true) (hC : C { w with drawn := w.drawn + 1 }) (hB : zew (o :: l).toArray (n + 1) = true)
 (hQ : ∀ c a w, Q (.panic c) (a.put o.dst v) w -> Q (.panic c) a w) (hg : o.guard = none) (hv : ∀ w, (execOp a.eval o).run P w = .ok (.value v) w)
 (h : wpQuiet P (o :: l).toArray C (fun a' => ∀ w', C w' -> wpList P (o :: l).toArray Q (l.drop n) a' w') (l.take n) (a.put o.dst v)) : (Code.region id (o :: l).toArray true).wp P Q a w := by
 simp only [zew, Bool.and_eq_true, decide_eq_true_eq] at hB;obtain ⟨⟨⟨⟨⟨⟨⟨hsel, hn⟩, hs⟩, hc⟩, _⟩, hr⟩, hf⟩, hlex⟩ := hB;have hn' : n < l.length := by simpa using hn
 have htl : (l.take n).length = n := by simp; omega
 have hsz : (o :: l).toArray.size = l.length + 1 := by simp
 have hdl : (l.drop n).length = (o :: l).toArray.size - (n + 1) := by simp
 have h00 : (o :: l).toArray[0]? = some o := by simp
 have hr' : 0 ∈ Region.ready .any (o :: l).toArray (Array.replicate (o :: l).toArray.size false) := by simpa using hr
 have inv0 : HeadInv .any (o :: l).toArray (n + 1) (Array.replicate (o :: l).toArray.size false) :=
  ⟨Array.size_replicate .., fun j oj _ hl => (by rw [getD_replicate_false] at hl; cases hl), fun t _ ht => getD_in (by simpa using ht) (getD_replicate_false _ _)⟩
 have H := zbw (g := (o :: l).toArray.size - (n + 1)) hsel hs hc hn (l.take n) 1 _ (a.put o.dst v) (by omega) (fun j hj => by
  have hj' : j < n := by rw [htl] at hj; exact hj
  simp [hj', Nat.add_comm 1 j]) (by rw [htl]; omega) (inv0.set hr' (by omega)) (by rw [htl]; exact hlex) h
 refine wp_region_any hm ?_;have H2 := z5t (Q' := Q) (g := (o :: l).toArray.size - (n + 1)) (fun listed a' w' hw hL => by
  have := wpAny_of_seq (md := .any) (Q' := Q) (l.drop n) (n + 1) listed a' w' (fun j => by simp [List.getElem?_drop, Nat.add_right_comm]) (by rw [hdl]; exact hL.1) (hL.2 w' hw)
  rwa [hdl] at this) _ _ _ _ hC H
 rw [htl] at H2;have H3 := wpAny_first h00 (Region.noSelect_spec hsel) hQ _ _ _ _ (Region.free_spec h00 hf) hr' (Or.inl ⟨by simp [Region.wanted, hg], hv⟩) H2;rw [show n + ((o :: l).toArray.size - (n + 1)) + 1 = (o :: l).toArray.size by omega] at H3;exact H3
theorem zi {id : Nat} {Q : Exit -> Act -> World -> Prop} {a : Act} {w : World} {o : Oper} {l : List Oper} (n : Nat) (v : Value) (hm : P.follows .mixedOrders = true) (hB : zew (o :: l).toArray (n + 1) = true)
 (hQ : ∀ c a w, Q (.panic c) (a.put o.dst v) w -> Q (.panic c) a w) (hg : o.guard = none) (hv : ∀ w, (execOp a.eval o).run P w = .ok (.value v) w)
 (h : wpQuiet P (o :: l).toArray (fun w' => ∃ p : Regrown, w' = grow (redrawn w p.d) p.os) (fun a' => ∀ w', (∃ p : Regrown, w' = grow (redrawn w p.d) p.os) -> wpList P (o :: l).toArray Q (l.drop n) a' w') (l.take n) (a.put o.dst v)) : (Code.region id (o :: l).toArray true).wp P Q a w :=
 z49 n v hm ⟨⟨w.drawn + 1, #[]⟩, by rw [grow_empty]; rfl⟩ hB hQ hg hv h
end
end Go.Proofs.YtdmadnfadgggcaaGreatDoor
namespace Go.Proofs.YtdmadnfadgggcaaGreatDoor
open Go.RowKit Go.Instr Go.Sort
set_option maxRecDepth 100000
structure Then8 (k : Nat) (W W' : World) (b : Bool) : Prop where
 os : W'.os = W.os
 tape : W'.tape = W.tape
 output : W'.output = W.output
 size : W.heap.size <= W'.heap.size
 block : ∀ i, i < W.heap.size -> i ≠ k -> W'.heap[i]? = W.heap[i]?
 cell : ∀ j, j ≠ 8 -> W'.cell? ⟨k, j, none⟩ = W.cell? ⟨k, j, none⟩
 c8 : W'.cell? ⟨k, 8, none⟩ = some (.bool b)
 fz : W'.frozen? ⟨k, 8, none⟩ = false
 fr : ∀ j, W'.frozen? ⟨k, j, none⟩ = W.frozen? ⟨k, j, none⟩
theorem Then8.grown {k : Nat} {W W' : World} {b : Bool} (h : Below W.heap.size W W') (hk : k < W.heap.size) (hc : W.cell? ⟨k, 8, none⟩ = some (.bool b)) (hf : W.frozen? ⟨k, 8, none⟩ = false) : Then8 k W W' b :=
 ⟨h.os, h.tape, h.output, h.size, fun i hi _ => h.block i hi, fun j _ => h.cell hk, by rw [h.cell hk]; exact hc, by rw [h.frozen hk]; exact hf, fun j => h.frozen hk⟩
theorem Then8.trans {k : Nat} {W W' W'' : World} {b b' : Bool} (h : Then8 k W W' b) (h' : Then8 k W' W'' b') : Then8 k W W'' b' :=
 ⟨h'.os.trans h.os, h'.tape.trans h.tape, h'.output.trans h.output, Nat.le_trans h.size h'.size, fun i hi hn => (h'.block i (Nat.lt_of_lt_of_le hi h.size) hn).trans (h.block i hi hn), fun j hj => (h'.cell j hj).trans (h.cell j hj), h'.c8, h'.fz, fun j => (h'.fr j).trans (h.fr j)⟩
theorem Then8.below {k n : Nat} {W W' : World} {b : Bool} (h : Then8 k W W' b) (hn : n <= k) (hs : n <= W.heap.size) : Below n W W' :=
 ⟨h.os, h.tape, h.output, h.size, fun i hi => h.block i (by omega) (by omega)⟩
theorem Then8.chk {k : Nat} {W W' : World} {b bad : Bool} {m : Mach} {sr sb su si wm : Value} (h : Then8 k W W' b) (hC : ChkAt W k m sr sb su si wm bad) : ChkAt W' k m sr sb su si wm b :=
 ⟨(h.cell 0 (by decide)).trans hC.c0, (h.cell 1 (by decide)).trans hC.c1, (h.cell 2 (by decide)).trans hC.c2, (h.cell 3 (by decide)).trans hC.c3, (h.cell 4 (by decide)).trans hC.c4, (h.cell 5 (by decide)).trans hC.c5, (h.cell 6 (by decide)).trans hC.c6, (h.cell 7 (by decide)).trans hC.c7, h.c8, h.fz, Nat.lt_of_lt_of_le hC.lt h.size⟩
theorem Then8.set {k : Nat} {W w1 : World} {x : Value} (b : Bool) (h : Below W.heap.size W w1) (hk : k < W.heap.size) (hc : W.cell? ⟨k, 8, none⟩ = some x) (hf : W.frozen? ⟨k, 8, none⟩ = false) : Then8 k W (w1.setCell ⟨k, 8, none⟩ (.bool b)) b :=
 ⟨h.os, h.tape, h.output, Nat.le_trans h.size (by simp [World.setCell]), fun i hi hn => (Below.heap_setCell _ _ _ _ hn).trans (h.block i hi), fun j hj => (World.cell?_setCell_other _ ⟨k, 8, none⟩ ⟨k, j, none⟩ _ (by first | (simp; done) | (simp; exact fun e => hj e.symm))).trans (h.cell hk), World.cell?_setCell_same' _ _ _ (by rw [h.cell hk, hc]; rfl), by have e := h.frozen (p := ⟨k, 8, none⟩) hk;have e2 := World.frozen?_setCell w1 ⟨k, 8, none⟩ ⟨k, 8, none⟩ (.bool b);rw [e2, e]; exact hf, fun j => by rw [World.frozen?_setCell]; exact h.frozen hk⟩
theorem bools2 (X : World) (a b : Bool) (t : TypeId) : zf 1 z65 (X.alloc (.cells #[.bool a, .bool b] t)) (.slice (some ⟨X.heap.size, 0, none⟩) 2 2) [a, b] := by
 refine ⟨_, _, rfl, by simp [maxLen], by simp, by simp [maxLen], fun i x hx => ⟨X.heap.size, 0, [.bool x], rfl, by simp, rfl, fun j u hj => ?_, rfl⟩⟩
 cases j with
 | succ j => simp at hj
 | zero =>
   simp at hj;subst hj;simp only [World.cell?];rw [heap_alloc_new]
   match i, hx with
   | 0, hx => simp at hx; subst hx; rfl
   | 1, hx => simp at hx; subst hx; rfl
   | i + 2, hx => simp at hx
theorem bools1 (X : World) (a : Bool) (t : TypeId) : zf 1 z65 (X.alloc (.cells #[.bool a] t)) (.slice (some ⟨X.heap.size, 0, none⟩) 1 1) [a] := by
 refine ⟨_, _, rfl, by simp [maxLen], by simp, by simp [maxLen], fun i x hx => ⟨X.heap.size, 0, [.bool x], rfl, by simp, rfl, fun j u hj => ?_, rfl⟩⟩
 cases j with
 | succ j => simp at hj
 | zero =>
   simp at hj;subst hj;simp only [World.cell?];rw [heap_alloc_new]
   match i, hx with
   | 0, hx => simp at hx; subst hx; rfl
   | i + 1, hx => simp at hx
theorem must2 (X : World) (k : Nat) (m : Mach) (sr sb su si wm : Value) (bad : Bool) (hC : ChkAt X k m sr sb su si wm bad) (a b : Bool) :
 Calls prog 135 #[.pointer (some ⟨k, 0, none⟩), .slice (some ⟨X.heap.size, 0, none⟩) 2 2] (X.alloc (.cells #[.bool a, .bool b] 4)) fun e w' => e = .returned (.tuple #[]) /\ Then8 k X w' (bad || !(a && b)) := by
 have hb : Below X.heap.size X (X.alloc (.cells #[.bool a, .bool b] 4)) := (Below.refl _ _).alloc (Nat.le_refl _) _;have hl := hC.later hb;refine (z3o k bad _ [a, b] _ (bools2 X a b 4) hl.c8 hl.fz).mono fun e w' ⟨h1, h2⟩ => ⟨h1, ?_⟩;rw [show (bad || !([a, b].all id)) = (bad || !(a && b)) by simp [List.all_cons]] at h2;rw [h2];exact Then8.set _ hb hC.lt hC.c8 hC.fz
theorem must1 (X : World) (k : Nat) (m : Mach) (sr sb su si wm : Value) (bad : Bool) (hC : ChkAt X k m sr sb su si wm bad) (a : Bool) :
 Calls prog 135 #[.pointer (some ⟨k, 0, none⟩), .slice (some ⟨X.heap.size, 0, none⟩) 1 1] (X.alloc (.cells #[.bool a] 4)) fun e w' => e = .returned (.tuple #[]) /\ Then8 k X w' (bad || !a) := by
 have hb : Below X.heap.size X (X.alloc (.cells #[.bool a] 4)) := (Below.refl _ _).alloc (Nat.le_refl _) _;have hl := hC.later hb;refine (z3o k bad _ [a] _ (bools1 X a 4) hl.c8 hl.fz).mono fun e w' ⟨h1, h2⟩ => ⟨h1, ?_⟩;rw [show (bad || !([a].all id)) = (bad || !a) by simp [List.all_cons]] at h2;rw [h2];exact Then8.set _ hb hC.lt hC.c8 hC.fz
theorem zh {P : Program} {f : FuncId} {args : Array Value} {w : World} {d : Nat} {os : Array Obj} {v : Value} (h : Calls P f args (grow (redrawn w d) os) fun e w' => e = .returned v /\ grow (redrawn w d) os = w') :
 Calls P f args (grow (redrawn w d) os) fun e w'' => e = .returned v /\ ∃ p : Regrown, w'' = grow (redrawn w p.d) p.os := h.mono fun _ _ ⟨a, b⟩ => ⟨a, ⟨d, os⟩, b.symm⟩
theorem zg {n : Nat} {W W1 : World} (h : Below n W W1) (hn : n <= W1.heap.size) (d : Nat) (os : Array Obj) : Below n W (grow (redrawn W1 d) os) := h.trans ((below_regrown W1 d os).mono hn)
theorem z9o (W : World) (x : MReg) : ∀ B, W.heap.size = B -> (W.alloc (.cells #[.string x.name, .int .i64 x.width, .int .i64 x.par, .int .i64 x.low] 96)).cell? ⟨B, 0, none⟩ = some (.string x.name) /\ (W.alloc (.cells #[.string x.name, .int .i64 x.width, .int .i64 x.par, .int .i64 x.low] 96)).cell? ⟨B, 1, none⟩ = some (.int .i64 x.width) /\ (W.alloc (.cells #[.string x.name, .int .i64 x.width, .int .i64 x.par, .int .i64 x.low] 96)).cell? ⟨B, 2, none⟩ = some (.int .i64 x.par) /\ (W.alloc (.cells #[.string x.name, .int .i64 x.width, .int .i64 x.par, .int .i64 x.low] 96)).cell? ⟨B, 3, none⟩ = some (.int .i64 x.low) := by rintro _ rfl;simp only [World.cell?];rw [heap_alloc_new];exact ⟨rfl, rfl, rfl, rfl⟩
def z53 (R : List MReg) (r : MReg) : Bool := if 0 <= r.par then (match R[r.par.toNat]? with | some y => z2v y && (decide (r.width < y.width) && decide (0 <= r.low /\ r.low <= wrap64 (y.width - r.width))) | none => false) else false
theorem zbz (W : World) (k : Nat) (R : List MReg) (sr : Value) (hk : k < W.heap.size) (c3 : W.cell? ⟨k, 3, none⟩ = some sr) (hR : zf 4 regE W sr R) (x : MReg) (cs : List Value) (hE : regE W cs x) :
 Calls prog 140 #[.pointer (some ⟨k, 0, none⟩), .agg cs.toArray] W fun e w' => e = .returned (.bool (z53 R x)) /\ Below W.heap.size W w' := by
 obtain ⟨rfl, _, hw, hp, hl⟩ := hE;obtain ⟨A, c, rfl, hn1, hn2, hn3, hall⟩ := hR;obtain ⟨n, hn⟩ : ∃ n, R.length = n := ⟨_, rfl⟩;rw [hn] at c3 hn1 hn2;obtain ⟨W1, hW1⟩ : ∃ W1, W1 = W.alloc (.cells #[.string x.name, .int .i64 x.width, .int .i64 x.par, .int .i64 x.low] 96) := ⟨_, rfl⟩;have HW := hid hW1;have hb : Below W.heap.size W W1 := by rw [hW1]; exact (Below.refl _ _).alloc (Nat.le_refl _) _
 have HB := hid (zg hb hb.size);obtain ⟨f0, f1, f2, f3⟩ := z9o W x _ rfl;rw [<- hW1] at f0 f1 f2 f3;have d3 := (hb.cell (p := ⟨k, 3, none⟩) hk).trans c3;have K3 := cell_regrown d3;have F1 := cell_regrown f1;have F2 := cell_regrown f2;have F3 := cell_regrown f3;by_cases hi : 0 <= x.par /\ x.par < n
 ·obtain ⟨P, hP⟩ : ∃ P : Nat, x.par = P := ⟨x.par.toNat, by omega⟩;have hPn : P < n := by omega
  obtain ⟨y, hy⟩ : ∃ y, R[P]? = some y := ⟨_, List.getElem?_eq_getElem (by omega)⟩;obtain ⟨b, o, cs, rfl, hbl, hcl, hcell, hE⟩ := hall P y hy;have hE2 := hE;obtain ⟨rfl, _, hyw, _, _⟩ := hE;have e0 : W1.cell? ⟨b, o + P * 4, none⟩ = some (.string y.name) := (hb.cell hbl).trans (by simpa using hcell 0 _ rfl);have e1 : W1.cell? ⟨b, o + P * 4 + 1, none⟩ = some (.int .i64 y.width) := (hb.cell hbl).trans (hcell 1 _ rfl);have e2 : W1.cell? ⟨b, o + P * 4 + 2, none⟩ = some (.int .i64 y.par) := (hb.cell hbl).trans (hcell 2 _ rfl);have e3 : W1.cell? ⟨b, o + P * 4 + 3, none⟩ = some (.int .i64 y.low) := (hb.cell hbl).trans (hcell 3 _ rfl);have E0 := cell_regrown e0;have E1 := cell_regrown e1;have E2 := cell_regrown e2;have E3 := cell_regrown e3;have hq : z53 R x = (z2v y && (decide (x.width < y.width) && decide (0 <= x.low /\ x.low <= wrap64 (y.width - x.width)))) := by unfold z53;rw [if_pos hi.1, show x.par.toNat = P by omega, hy]
  have iI : ∀ d os, Calls prog 85 #[.int .i64 P, .slice (some ⟨b, o, none⟩) n c] (grow (redrawn W1 d) os) fun e w'' => e = .returned (.bool true) /\ ∃ p : Regrown, w'' = grow (redrawn W1 p.d) p.os := fun d os => zh (by
   have h := z2m (P : Int) (some ⟨b, o, none⟩) n c (grow (redrawn W1 d) os)
   rwa [show decide (0 <= (P : Int) /\ (P : Int) < n) = true by simp; omega] at h)
  have II := hid iI;rw [hq];obtain ⟨q, hqq⟩ : ∃ q, z2v y = q := ⟨_, rfl⟩;have iR : ∀ d os, Calls prog 84 #[.agg #[.string y.name, .int .i64 y.width, .int .i64 y.par, .int .i64 y.low]] (grow (redrawn W1 d) os) fun e w'' => e = .returned (.bool q) /\ ∃ p : Regrown, w'' = grow (redrawn W1 p.d) p.os := fun d os => Calls.regrown_of (by rw [<- hqq]; exact z4d W _ y [.string y.name, .int .i64 y.width, .int .i64 y.par, .int .i64 y.low] hE2);have IR := hid iR;rw [hqq];rw [hP] at f2 F2;obtain ⟨xw, hxw⟩ : ∃ z, x.width = z := ⟨_, rfl⟩;obtain ⟨xl, hxl⟩ : ∃ z, x.low = z := ⟨_, rfl⟩;obtain ⟨yw, hyw2⟩ : ∃ z, y.width = z := ⟨_, rfl⟩;obtain ⟨yp, hyp⟩ : ∃ z, y.par = z := ⟨_, rfl⟩;obtain ⟨yl, hyl⟩ : ∃ z, y.low = z := ⟨_, rfl⟩;obtain ⟨ys, hys⟩ : ∃ z, y.name = z := ⟨_, rfl⟩;rw [hxw] at F1 f1 hW1 HW ⊢;rw [hxl] at F3 f3 hW1 HW ⊢;rw [hP] at hW1 HW ⊢;rw [hyw2] at E1 e1 IR ⊢;rw [hyp] at E2 e2 IR;rw [hyl] at E3 e3 IR;rw [hys] at E0 e0 IR;clear hxw hxl hyw2 hyp hyl hys iI iR hqq hq hE2 hall hcell hcl hy hn hi hP;obtain ⟨xn, hxn⟩ : ∃ z, x.name = z := ⟨_, rfl⟩;rw [hxn] at hW1 HW f0 ⊢;clear hxn hw hp hl hyw hW1 hb;show Calls prog 140 #[.pointer (some ⟨k, 0, none⟩), .agg #[.string xn, .int .i64 xw, .int .i64 P, .int .i64 xl]] W _
  cases q with
  | false =>
    go_enter Tryz.func140, Tryz.ntmps140
    go_wp2_with fail
    rw [<- HW.out];refine wp_region_quiet_below (by kernel_rfl) (by kernel_rfl) ?_;repeat (first | go_big_quiet_step (first | (with_reducible exact II.out _ _) | (with_reducible exact IR.out _ _)) | quiet_step (first | (with_reducible exact II.out _ _) | (with_reducible exact IR.out _ _)))
    refine wpQuiet_nil ?_;intro G hG;have hbG : Below W.heap.size W G := (by obtain ⟨p, rfl⟩ := hG; exact HB.out _ _);clear hG;go_wp2
    go_ret
    exact ⟨rfl, hbG⟩
  | true =>
    by_cases hlt : xw < yw
    ·rw [show decide (xw < yw) = true by simp [hlt], Bool.true_and, Bool.true_and];have IS := hid (fun w => z2p xl 0 (wrap64 (yw - xw)) w);obtain ⟨rr, hrr⟩ : ∃ rr, decide (0 <= xl /\ xl <= wrap64 (yw - xw)) = rr := ⟨_, rfl⟩;rw [hrr] at IS ⊢;clear hrr;go_enter Tryz.func140, Tryz.ntmps140
     go_wp2_with fail
     rw [<- HW.out];refine wp_region_quiet_below (by kernel_rfl) (by kernel_rfl) ?_;repeat (first | go_big_quiet_step (first | (with_reducible exact II.out _ _) | (with_reducible exact IR.out _ _)) | quiet_step (first | (with_reducible exact II.out _ _) | (with_reducible exact IR.out _ _)))
     refine wpQuiet_nil ?_;intro G hG;have hbG : Below W.heap.size W G := (by obtain ⟨p, rfl⟩ := hG; exact HB.out _ _);have g3 : G.cell? ⟨k, 3, none⟩ = some (.slice (some ⟨b, o, none⟩) n c) := (by obtain ⟨p, rfl⟩ := hG; exact K3 _ _);have g1 : G.cell? ⟨W.heap.size, 1, none⟩ = some (.int .i64 xw) := (by obtain ⟨p, rfl⟩ := hG; exact F1 _ _);have g2 : G.cell? ⟨W.heap.size, 2, none⟩ = some (.int .i64 P) := (by obtain ⟨p, rfl⟩ := hG; exact F2 _ _);have gl : G.cell? ⟨W.heap.size, 3, none⟩ = some (.int .i64 xl) := (by obtain ⟨p, rfl⟩ := hG; exact F3 _ _);have ge : G.cell? ⟨b, o + P * 4 + 1, none⟩ = some (.int .i64 yw) := (by obtain ⟨p, rfl⟩ := hG; exact E1 _ _);clear hG K3 F1 F2 F3 E0 E1 E2 E3 II IR f0 f1 f2 f3 e0 e1 e2 e3 d3 c3;have K3 := cell_regrown g3;have K2 := cell_regrown g2;have KE := cell_regrown ge;go_wp2_with fail
     refine wp_region_quiet_below (by kernel_rfl) (by kernel_rfl) ?_;repeat (first | go_big_quiet_step (fail) | quiet_step (fail))
     refine wpQuiet_nil ?_;intro J hJ;have hbJ : Below W.heap.size W J := (by obtain ⟨p, rfl⟩ := hJ; exact hbG.trans ((below_regrown _ _ _).mono hbG.size));have j1 : J.cell? ⟨W.heap.size, 1, none⟩ = some (.int .i64 xw) := (by obtain ⟨p, rfl⟩ := hJ; exact cell_regrown g1 _ _);have jl : J.cell? ⟨W.heap.size, 3, none⟩ = some (.int .i64 xl) := (by obtain ⟨p, rfl⟩ := hJ; exact cell_regrown gl _ _);clear hJ K3 K2 KE g1 g2 g3 gl ge hbG;go_wp2_with (go_at_call 137; (with_reducible refine (IS.out _).mono ?_); rintro e w' ⟨rfl, rfl⟩)
     go_ret
     exact ⟨rfl, hbJ⟩
    ·rw [show decide (xw < yw) = false by simp [hlt], Bool.false_and, Bool.and_false];go_enter Tryz.func140, Tryz.ntmps140
     go_wp2_with fail
     rw [<- HW.out];refine wp_region_quiet_below (by kernel_rfl) (by kernel_rfl) ?_;repeat (first | go_big_quiet_step (first | (with_reducible exact II.out _ _) | (with_reducible exact IR.out _ _)) | quiet_step (first | (with_reducible exact II.out _ _) | (with_reducible exact IR.out _ _)))
     refine wpQuiet_nil ?_;intro G hG;have hbG : Below W.heap.size W G := (by obtain ⟨p, rfl⟩ := hG; exact HB.out _ _);have g3 : G.cell? ⟨k, 3, none⟩ = some (.slice (some ⟨b, o, none⟩) n c) := (by obtain ⟨p, rfl⟩ := hG; exact K3 _ _);have g1 : G.cell? ⟨W.heap.size, 1, none⟩ = some (.int .i64 xw) := (by obtain ⟨p, rfl⟩ := hG; exact F1 _ _);have g2 : G.cell? ⟨W.heap.size, 2, none⟩ = some (.int .i64 P) := (by obtain ⟨p, rfl⟩ := hG; exact F2 _ _);have gl : G.cell? ⟨W.heap.size, 3, none⟩ = some (.int .i64 xl) := (by obtain ⟨p, rfl⟩ := hG; exact F3 _ _);have ge : G.cell? ⟨b, o + P * 4 + 1, none⟩ = some (.int .i64 yw) := (by obtain ⟨p, rfl⟩ := hG; exact E1 _ _);clear hG K3 F1 F2 F3 E0 E1 E2 E3 II IR f0 f1 f2 f3 e0 e1 e2 e3 d3 c3;have K3 := cell_regrown g3;have K2 := cell_regrown g2;have KE := cell_regrown ge;go_wp2_with fail
     refine wp_region_quiet_below (by kernel_rfl) (by kernel_rfl) ?_;repeat (first | go_big_quiet_step (fail) | quiet_step (fail))
     refine wpQuiet_nil ?_;intro J hJ;have hbJ : Below W.heap.size W J := (by obtain ⟨p, rfl⟩ := hJ; exact hbG.trans ((below_regrown _ _ _).mono hbG.size));have j1 : J.cell? ⟨W.heap.size, 1, none⟩ = some (.int .i64 xw) := (by obtain ⟨p, rfl⟩ := hJ; exact cell_regrown g1 _ _);have jl : J.cell? ⟨W.heap.size, 3, none⟩ = some (.int .i64 xl) := (by obtain ⟨p, rfl⟩ := hJ; exact cell_regrown gl _ _);clear hJ K3 K2 KE g1 g2 g3 gl ge hbG;go_wp2
     go_ret
     exact ⟨rfl, hbJ⟩
 ·have hq : z53 R x = false := by
   unfold z53;by_cases h : 0 <= x.par
   ·rw [if_pos h, List.getElem?_eq_none (by omega)]
   ·rw [if_neg h]
  have iI : ∀ d os, Calls prog 85 #[.int .i64 x.par, .slice A n c] (grow (redrawn W1 d) os) fun e w'' => e = .returned (.bool false) /\ ∃ p : Regrown, w'' = grow (redrawn W1 p.d) p.os := fun d os => zh (by
   have h := z2m x.par A n c (grow (redrawn W1 d) os)
   rwa [show decide (0 <= x.par /\ x.par < n) = false by simpa using hi] at h)
  have II := hid iI;rw [hq];clear hq hi hall hn iI hb hW1;go_enter Tryz.func140, Tryz.ntmps140
  go_wp2_with fail
  rw [<- HW.out];refine wp_region_quiet_below (by kernel_rfl) (by kernel_rfl) ?_;repeat (first | go_big_quiet_step ((with_reducible exact II.out _ _)) | quiet_step ((with_reducible exact II.out _ _)))
  refine wpQuiet_nil ?_;intro _ hw';obtain ⟨⟨dq, osq⟩, hw''⟩ := hw';subst hw'';go_wp2
  go_ret
  exact ⟨rfl, HB.out dq osq⟩
end Go.Proofs.YtdmadnfadgggcaaGreatDoor
