import Derived.WalkKit
import Derived.Lib.Hide
import Derived.Test.YtdmadnfadgggcaaGreatDoorChecked
import Derived.Handy
import Derived.WalkLawsBesides
import Derived.WalkSpells
import Derived.OpenShut
import Derived.Deep.Slices
import Derived.RowKit
import Derived.Lib.IndexBytes
import Derived.BigQuiet
import Derived.Deep.QuietTactic
import Derived.Lib.Strings
set_option linter.unusedVariables false
set_option linter.unusedSimpArgs false
set_option warningAsError false
open Go.Lib (hid)
open Go.Proofs.Tryz (prog)
noncomputable section
namespace Go.Proofs.YtdmadnfadgggcaaGreatDoor
open Go.RowKit
def mk (n : Nat) : Nat := 2 ^ n - 1
def okB (n x : Nat) : Bool := decide (x < 2 ^ n)
theorem zem (n : Nat) (h : n <= 64) : 2 ^ n <= 18446744073709551616 := by have := Nat.pow_le_pow_right (n := 2) (by omega) h; simpa using this
theorem z55 (n : Nat) : 0 < 2 ^ n := Nat.two_pow_pos n
theorem zhb (n : Nat) (h : n <= 64) : mk n < 18446744073709551616 := by have := zem n h; have := z55 n; unfold mk; omega
theorem zae (n : Nat) : mk n + 1 = 2 ^ n := by have := z55 n; unfold mk; omega
theorem zak (n x : Nat) : okB n x = true ↔ x < 2 ^ n := by simp [okB]
theorem zhc (n x : Nat) : okB n x = decide (x <= mk n) := by have := zae n; unfold okB; congr 1; rw [<- this]; exact propext ⟨fun h => by omega, fun h => by omega⟩
theorem zft (n : Nat) (h : n <= 64) : IntKind.u64.wrap (IntKind.u64.wrap ((2 : Int) ^ n) - 1) = ((mk n : Nat) : Int) := by
 have h1 := zem n h;have h2 := zae n;have h3 := zhb n h;have e : ((2 : Int) ^ n) = ((mk n + 1 : Nat) : Int) := by rw [h2]; simp
 rw [e, IntKind.wrap_u64, IntKind.wrap_u64];omega
theorem zd (z : Int) (h0 : -9223372036854775808 <= z) (h1 : z < 9223372036854775808) : wrap64 z = z := by unfold wrap64; omega
theorem z6b (n : Int) (w : World) (h0 : 1 <= n) (h1 : n <= 64) :
 Calls prog 89 #[.int .i64 n] w fun e w' => e = .returned (.bool true) /\ w = w' := by
 go_enter Tryz.func89, Tryz.ntmps89
 go_wp2
 go_ret
 exact ⟨rfl, rfl⟩
theorem zc1 (n : Int) (w : World) (h : n < 1 ∨ 64 < n) :
 Calls prog 89 #[.int .i64 n] w fun e w' => e = .returned (.bool false) /\ w = w' := by
 rcases h with h | h
 ·go_enter Tryz.func89, Tryz.ntmps89
  go_wp2
  go_ret
  exact ⟨rfl, rfl⟩
 ·have h' : (1 : Int) <= n := by omega
  have h2 : decide (n <= 64) = false := by simp; omega
  go_enter Tryz.func89, Tryz.ntmps89
  go_wp2
  go_ret
  exact ⟨rfl, rfl⟩
theorem z4z (n : Nat) (w : World) (h0 : 1 <= n) (h1 : n <= 64) :
 Calls prog 49 #[.int .i64 n] w fun e w' => e = .returned (.int .u64 (mk n : Nat)) /\ w = w' := by
 have H := hid (zft n h1);go_enter Tryz.func49, Tryz.ntmps49
 go_wp2_with (go_at_call 89; refine (z6b _ _ (by omega) (by omega)).mono ?_; rintro e w' ⟨rfl, rfl⟩)
 go_ret
 refine ⟨?_, rfl⟩;show Ending.returned (.int .u64 _) = _;rw [H.out]
def part (f : Nat -> Nat) : Nat -> Nat | 0 => 0 | k + 1 => part f k + f k * 2 ^ (8 * k)
def bs (lt : Nat -> Bool) : Nat -> Nat -> Nat -> Nat
 | 0, i, _ => i
 | m + 1, i, j => if i < j then (if lt ((i + j) / 2) then bs lt m ((i + j) / 2 + 1) j else bs lt m i ((i + j) / 2)) else i
end Go.Proofs.YtdmadnfadgggcaaGreatDoor
namespace Go.Proofs.YtdmadnfadgggcaaGreatDoor
open Go.RowKit Go.ChangeShapes Go.WideShapes Go.Deep
inductive Tm where
 | mk (kind : Nat) (width : Int) (bits : Nat) (name : ByteArray) (low : Int) (sub : List Tm)
def Tm.kind : Tm -> Nat | .mk k _ _ _ _ _ => k
def Tm.width : Tm -> Int | .mk _ w _ _ _ _ => w
def Tm.bits : Tm -> Nat | .mk _ _ b _ _ _ => b
def Tm.name : Tm -> ByteArray | .mk _ _ _ s _ _ => s
def Tm.low : Tm -> Int | .mk _ _ _ _ l _ => l
def Tm.sub : Tm -> List Tm | .mk _ _ _ _ _ l => l
instance : Inhabited Tm := ⟨.mk 0 0 0 ⟨#[]⟩ 0 []⟩
mutual
def Tm.sz : Tm -> Nat | .mk _ _ _ _ _ l => Tm.szs l + 1
def Tm.szs : List Tm -> Nat | [] => 0 | t :: l => t.sz + Tm.szs l
end
mutual
def Tm.dp : Tm -> Nat | .mk _ _ _ _ _ l => Tm.dps l + 1
def Tm.dps : List Tm -> Nat | [] => 0 | t :: l => max t.dp (Tm.dps l)
end
theorem Tm.sz_eq (t : Tm) : t.sz = Tm.szs t.sub + 1 := by cases t; simp [Tm.sz, Tm.sub]
theorem Tm.dp_eq (t : Tm) : t.dp = Tm.dps t.sub + 1 := by cases t; simp [Tm.dp, Tm.sub]
theorem Tm.szs_cons (t : Tm) (l : List Tm) : Tm.szs (t :: l) = t.sz + Tm.szs l := by simp [Tm.szs]
theorem Tm.szs_nil : Tm.szs [] = 0 := by simp [Tm.szs]
theorem Tm.szs_append (a b : List Tm) : Tm.szs (a ++ b) = Tm.szs a + Tm.szs b := by
 induction a with
 | nil => simp [Tm.szs]
 | cons t a ih => simp only [List.cons_append, Tm.szs_cons, ih]; omega
theorem Tm.sz_mem {t : Tm} {l : List Tm} (h : t ∈ l) : t.sz <= Tm.szs l := by
 induction l with
 | nil => cases h
 | cons u l ih =>
   rw [Tm.szs_cons]
   cases h with
   | head => omega
   | tail _ h => have := ih h; omega
theorem Tm.dp_mem {t : Tm} {l : List Tm} (h : t ∈ l) : t.dp <= Tm.dps l := by
 induction l with
 | nil => cases h
 | cons u l ih =>
   simp only [Tm.dps]
   cases h with
   | head => omega
   | tail _ h => have := ih h; omega
def Tm.cells (t : Tm) (sv : Value) : List Value := [.int .u8 t.kind, .int .i64 t.width, .int .u64 t.bits, .string t.name, .int .i64 t.low, sv]
def Tm.fit (t : Tm) : Prop := t.kind < 256 /\ (-9223372036854775808 <= t.width /\ t.width <= 9223372036854775807) /\ t.bits < 18446744073709551616 /\ t.name.size <= maxLen /\ (-9223372036854775808 <= t.low /\ t.low <= 9223372036854775807)
inductive SubAt (w : World) (B : Nat) : Value -> List Tm -> Prop
 | mk (p : Option Addr) (n cap : Nat) (ts : List Tm) (S : Nat -> Value) (hn : ts.length = n) (hm : n <= maxLen)
   (hf : ∀ (i : Nat) (t : Tm), ts[i]? = some t -> t.fit)
   (hp : ∀ (i : Nat) (t : Tm), ts[i]? = some t -> ∃ b o, p = some ⟨b, o, none⟩ /\ b < B /\
     w.cell? ⟨b, o + i * 6, none⟩ = some (.int .u8 t.kind) /\ w.cell? ⟨b, o + i * 6 + 1, none⟩ = some (.int .i64 t.width) /\ w.cell? ⟨b, o + i * 6 + 2, none⟩ = some (.int .u64 t.bits) /\
     w.cell? ⟨b, o + i * 6 + 3, none⟩ = some (.string t.name) /\ w.cell? ⟨b, o + i * 6 + 4, none⟩ = some (.int .i64 t.low) /\ w.cell? ⟨b, o + i * 6 + 5, none⟩ = some (S i))
   (hs : ∀ (i : Nat) (t : Tm), ts[i]? = some t -> SubAt w B (S i) t.sub) : SubAt w B (.slice p n cap) ts
theorem SubAt.kept {w w' : World} {B : Nat} {v : Value} {ts : List Tm} (h : SubAt w B v ts) (hb : Below B w w') : SubAt w' B v ts := by
 induction h with
 | mk p n cap ts S hn hm hf hp hs ih => refine .mk p n cap ts S hn hm hf (fun i t hi => ?_) (fun i t hi => ih i t hi);obtain ⟨b, o, e, h0, c0, c1, c2, c3, c4, c5⟩ := hp i t hi;exact ⟨b, o, e, h0, by rw [hb.cell h0]; exact c0, by rw [hb.cell h0]; exact c1, by rw [hb.cell h0]; exact c2, by rw [hb.cell h0]; exact c3, by rw [hb.cell h0]; exact c4, by rw [hb.cell h0]; exact c5⟩
theorem SubAt.inv {w : World} {B : Nat} {v : Value} {ts : List Tm} (h : SubAt w B v ts) : ∃ (p : Option Addr) (n cap : Nat) (S : Nat -> Value), v = .slice p n cap /\ ts.length = n /\ n <= maxLen /\ (∀ (i : Nat) (t : Tm), ts[i]? = some t -> t.fit) /\
 (∀ (i : Nat) (t : Tm), ts[i]? = some t -> ∃ b o, p = some ⟨b, o, none⟩ /\ b < B /\
   w.cell? ⟨b, o + i * 6, none⟩ = some (.int .u8 t.kind) /\ w.cell? ⟨b, o + i * 6 + 1, none⟩ = some (.int .i64 t.width) /\ w.cell? ⟨b, o + i * 6 + 2, none⟩ = some (.int .u64 t.bits) /\
   w.cell? ⟨b, o + i * 6 + 3, none⟩ = some (.string t.name) /\ w.cell? ⟨b, o + i * 6 + 4, none⟩ = some (.int .i64 t.low) /\ w.cell? ⟨b, o + i * 6 + 5, none⟩ = some (S i)) /\
 (∀ (i : Nat) (t : Tm), ts[i]? = some t -> SubAt w B (S i) t.sub) := by
 cases h with
 | mk p n cap ts S hn hm hf hp hs => exact ⟨p, n, cap, S, rfl, hn, hm, hf, hp, hs⟩
theorem z3y {W : World} {a : Addr} {v : Value} (h : W.cell? a = some v) : a.block < W.heap.size := Nat.lt_of_not_le fun hle => by
 have hn : W.heap[a.block]? = none := by simp [hle]
 simp [World.cell?, hn] at h
set_option maxRecDepth 100000 in
theorem z6k {H : Type} {enc : TypeId × Value -> H} {W : World} : ∀ (fuel : Nat) {cs : List Value} {x : DataW H × List MemPlace},
 DataW.trod enc prog W 0 (fun _ => true) true fuel 90 cs = some x -> ∃ t sv, cs = Tm.cells t sv /\ t.fit /\ SubAt W W.heap.size sv t.sub := by
 intro fuel
 induction fuel using Nat.strongRecOn with
 | _ fuel ih =>
   intro cs x h;obtain ⟨xs, n, rfl, _, hcl, hxl, hf⟩ := DataW.trod_struct Tryz.underlying90 h;have hcells : prog.cellsOf 90 = 6 := by kernel_rfl
   rw [hcells] at hcl;have e1 : prog.cellsOf 5 = 1 := by kernel_rfl
   have e2 : prog.cellsOf 3 = 1 := by kernel_rfl
   have e3 : prog.cellsOf 49 = 1 := by kernel_rfl
   have e4 : prog.cellsOf 9 = 1 := by kernel_rfl
   have e5 : prog.cellsOf 88 = 1 := by kernel_rfl
   match cs, hcl, xs, hxl with
   | [v0, v1, v2, v3, v4, v5], _, [y0, y1, y2, y3, y4, y5], _ =>
     have g0 : DataW.trod enc prog W 0 (fun _ => true) true n 5 (List.take (prog.cellsOf 5) [v0, v1, v2, v3, v4, v5]) = some y0 := hf 0 _ rfl;have g1 : DataW.trod enc prog W 0 (fun _ => true) true n 3 (List.take (prog.cellsOf 3) [v1, v2, v3, v4, v5]) = some y1 := hf 1 _ rfl;have g2 : DataW.trod enc prog W 0 (fun _ => true) true n 49 (List.take (prog.cellsOf 49) [v2, v3, v4, v5]) = some y2 := hf 2 _ rfl;have g3 : DataW.trod enc prog W 0 (fun _ => true) true n 9 (List.take (prog.cellsOf 9) [v3, v4, v5]) = some y3 := hf 3 _ rfl;have g4 : DataW.trod enc prog W 0 (fun _ => true) true n 3 (List.take (prog.cellsOf 3) [v4, v5]) = some y4 := hf 4 _ rfl;have g5 : DataW.trod enc prog W 0 (fun _ => true) true n 88 (List.take (prog.cellsOf 88) [v5]) = some y5 := hf 5 _ rfl;rw [e1] at g0;rw [e2] at g1 g4;rw [e3] at g2;rw [e4] at g3;rw [e5] at g5;obtain ⟨z0, q0, _, w0⟩ := DataW.trod_int Tryz.underlying5 g0;obtain ⟨z1, q1, _, w1⟩ := DataW.trod_int Tryz.underlying3 g1;obtain ⟨z2, q2, _, w2⟩ := DataW.trod_int Tryz.underlying49 g2;obtain ⟨z3, q3, _, w3⟩ := DataW.trod_string Tryz.underlying9 g3;obtain ⟨z4, q4, _, w4⟩ := DataW.trod_int Tryz.underlying3 g4;simp only [List.take_succ_cons, List.take_zero, List.cons.injEq, and_true] at q0 q1 q2 q3 q4;simp [Lit.wf, IntKind.min, IntKind.max, IntKind.bits, IntKind.signed] at w0 w1 w2 w4;subst q0; subst q1; subst q2; subst q3; subst q4;obtain ⟨k, rfl⟩ : ∃ k : Nat, z0 = k := ⟨z0.toNat, by omega⟩;obtain ⟨b, rfl⟩ : ∃ k : Nat, z2 = k := ⟨z2.toNat, by omega⟩;have hsub : ∃ ts, SubAt W W.heap.size v5 ts := by
      rcases DataW.trod_slice Tryz.underlying88 g5 with ⟨h1, _⟩ | ⟨a, len, cap, elems, rest, n', hn', h1, _, _, hl, hmx, hlen, hel, _, _⟩
      ·simp only [List.take_succ_cons, List.take_zero, List.cons.injEq, and_true] at h1;subst h1;exact ⟨[], .mk none 0 0 [] (fun _ => .nilFunc) rfl (by unfold maxLen; omega) (fun i t h => by simp at h) (fun i t h => by simp at h) (fun i t h => by simp at h)⟩
      ·simp only [List.take_succ_cons, List.take_zero, List.cons.injEq, and_true] at h1;subst h1;have each : ∀ i, i < len -> ∃ q : Tm × Value, W.cells? 0 (a.add (i * 6)) 6 = some (Tm.cells q.1 q.2) /\ q.1.fit /\ SubAt W W.heap.size q.2 q.1.sub := fun i hi => by
        have h2 := hel i hi;rw [hcells, List.getElem?_eq_getElem (by omega)] at h2;obtain ⟨cs', h3, h4⟩ := Option.bind_eq_some_iff.1 h2;obtain ⟨t, sv, rfl, h5, h6⟩ := ih n' (by omega) h4;exact ⟨(t, sv), h3, h5, h6⟩
       obtain ⟨Q, hQ⟩ := choose_lt each;have hts : ∀ (i : Nat) (t : Tm), ((List.range len).map fun i => (Q i).1)[i]? = some t -> i < len /\ t = (Q i).1 := fun i t h => by
        rw [List.getElem?_map] at h;have hi : i < len := by
         by_cases hi : i < len
         ·exact hi
         ·rw [List.getElem?_eq_none (by simp; omega)] at h;cases h
        rw [List.getElem?_range hi] at h;exact ⟨hi, (Option.some.inj h).symm⟩
       refine ⟨(List.range len).map fun i => (Q i).1, .mk (some a) len cap _ (fun i => (Q i).2) (by simp) (by omega) (fun i t h => ?_) (fun i t h => ?_) (fun i t h => ?_)⟩
       ·obtain ⟨hi, rfl⟩ := hts i t h;exact (hQ i hi).2.1
       ·obtain ⟨hi, rfl⟩ := hts i t h;obtain ⟨_, _, hc⟩ := World.cells?_some (hQ i hi).1;obtain ⟨_, _, hc0⟩ := World.cells?_some (hQ 0 (by omega)).1;obtain ⟨b, o, spot⟩ := a;have hspot : spot = none := by
         have := hc0 0 (by omega);rw [add_add] at this;simpa [Addr.add] using World.cell?_spot this
        subst hspot;have c0 := hc 0 (by omega);have c1 := hc 1 (by omega);have c2 := hc 2 (by omega);have c3 := hc 3 (by omega);have c4 := hc 4 (by omega);have c5 := hc 5 (by omega);rw [add_add, add_plain] at c0 c1 c2 c3 c4 c5;exact ⟨b, o, rfl, z3y c0, c0, by rw [Nat.add_assoc]; exact c1, by rw [Nat.add_assoc]; exact c2, by rw [Nat.add_assoc]; exact c3, by rw [Nat.add_assoc]; exact c4, by rw [Nat.add_assoc]; exact c5⟩
       ·obtain ⟨hi, rfl⟩ := hts i t h;exact (hQ i hi).2.2
     obtain ⟨ts, hts⟩ := hsub;exact ⟨.mk k z1 b z3 z4 ts, v5, rfl, ⟨by simp [Tm.kind]; omega, ⟨w1.1, by simp [Tm.width]; omega⟩, by simp [Tm.bits]; omega, w3, ⟨w4.1, by simp [Tm.low]; omega⟩⟩, hts⟩
end Go.Proofs.YtdmadnfadgggcaaGreatDoor
namespace Go.Proofs.YtdmadnfadgggcaaGreatDoor
open Go.RowKit
def z1e (c : Nat) : Prop := (97 <= c /\ c <= 122) ∨ (65 <= c /\ c <= 90)
def z28 (c : Nat) : Prop := 48 <= c /\ c <= 57
instance (c : Nat) : Decidable (z1e c) := inferInstanceAs (Decidable (_ ∨ _))
instance (c : Nat) : Decidable (z28 c) := inferInstanceAs (Decidable (_ /\ _))
theorem z7j (c : Nat) (w : World) :
 Calls prog 158 #[.int .u8 c] w fun e w' => e = .returned (.bool (decide (z1e c))) /\ w = w' := by
 rcases (by omega : c < 65 ∨ (65 <= c /\ c <= 90) ∨ (90 < c /\ c < 97) ∨ (97 <= c /\ c <= 122) ∨ 122 < c) with h | h | h | h | h
 ·have e : decide (z1e c) = false := decide_eq_false (by unfold z1e; omega);rw [e];have h1 : ¬ 97 <= c := by omega
  have h2 : ¬ 65 <= c := by omega
  go_enter Tryz.func158, Tryz.ntmps158
  go_wp2
  go_ret
  refine ⟨?_, rfl⟩
  first
  | rfl
  | (show Ending.returned (.bool (decide ((c : Int) <= 90))) = _; rw [show decide ((c : Int) <= 90) = true by simp; omega])
  | (show Ending.returned (.bool (decide ((c : Int) <= 90))) = _; rw [show decide ((c : Int) <= 90) = false by simp; omega])
  | (show Ending.returned (.bool (decide ((c : Int) <= 122) || decide ((c : Int) <= 90))) = _; rw [show decide ((c : Int) <= 122) = false by simp; omega, show decide ((c : Int) <= 90) = false by simp; omega]; rfl)
  | (show Ending.returned (.bool (decide ((c : Int) <= 57))) = _; rw [show decide ((c : Int) <= 57) = true by simp; omega])
  | (show Ending.returned (.bool (decide ((c : Int) <= 57))) = _; rw [show decide ((c : Int) <= 57) = false by simp; omega])
 ·have e : decide (z1e c) = true := decide_eq_true (by unfold z1e; omega);rw [e];have h1 : ¬ 97 <= c := by omega
  obtain ⟨h2, h3⟩ := h;go_enter Tryz.func158, Tryz.ntmps158
  go_wp2
  go_ret
  refine ⟨?_, rfl⟩
  first
  | rfl
  | (show Ending.returned (.bool (decide ((c : Int) <= 90))) = _; rw [show decide ((c : Int) <= 90) = true by simp; omega])
  | (show Ending.returned (.bool (decide ((c : Int) <= 90))) = _; rw [show decide ((c : Int) <= 90) = false by simp; omega])
  | (show Ending.returned (.bool (decide ((c : Int) <= 122) || decide ((c : Int) <= 90))) = _; rw [show decide ((c : Int) <= 122) = false by simp; omega, show decide ((c : Int) <= 90) = false by simp; omega]; rfl)
  | (show Ending.returned (.bool (decide ((c : Int) <= 57))) = _; rw [show decide ((c : Int) <= 57) = true by simp; omega])
  | (show Ending.returned (.bool (decide ((c : Int) <= 57))) = _; rw [show decide ((c : Int) <= 57) = false by simp; omega])
 ·have e : decide (z1e c) = false := decide_eq_false (by unfold z1e; omega);rw [e];have h1 : ¬ 97 <= c := by omega
  have h2 : 65 <= c := by omega
  have h3 : ¬ c <= 90 := by omega
  clear h;go_enter Tryz.func158, Tryz.ntmps158
  go_wp2
  go_ret
  refine ⟨?_, rfl⟩
  first
  | rfl
  | (show Ending.returned (.bool (decide ((c : Int) <= 90))) = _; rw [show decide ((c : Int) <= 90) = true by simp; omega])
  | (show Ending.returned (.bool (decide ((c : Int) <= 90))) = _; rw [show decide ((c : Int) <= 90) = false by simp; omega])
  | (show Ending.returned (.bool (decide ((c : Int) <= 122) || decide ((c : Int) <= 90))) = _; rw [show decide ((c : Int) <= 122) = false by simp; omega, show decide ((c : Int) <= 90) = false by simp; omega]; rfl)
  | (show Ending.returned (.bool (decide ((c : Int) <= 57))) = _; rw [show decide ((c : Int) <= 57) = true by simp; omega])
  | (show Ending.returned (.bool (decide ((c : Int) <= 57))) = _; rw [show decide ((c : Int) <= 57) = false by simp; omega])
 ·have e : decide (z1e c) = true := decide_eq_true (by unfold z1e; omega);rw [e];obtain ⟨h2, h3⟩ := h;go_enter Tryz.func158, Tryz.ntmps158
  go_wp2
  go_ret
  refine ⟨?_, rfl⟩
  first
  | rfl
  | (show Ending.returned (.bool (decide ((c : Int) <= 90))) = _; rw [show decide ((c : Int) <= 90) = true by simp; omega])
  | (show Ending.returned (.bool (decide ((c : Int) <= 90))) = _; rw [show decide ((c : Int) <= 90) = false by simp; omega])
  | (show Ending.returned (.bool (decide ((c : Int) <= 122) || decide ((c : Int) <= 90))) = _; rw [show decide ((c : Int) <= 122) = false by simp; omega, show decide ((c : Int) <= 90) = false by simp; omega]; rfl)
  | (show Ending.returned (.bool (decide ((c : Int) <= 57))) = _; rw [show decide ((c : Int) <= 57) = true by simp; omega])
  | (show Ending.returned (.bool (decide ((c : Int) <= 57))) = _; rw [show decide ((c : Int) <= 57) = false by simp; omega])
 ·have e : decide (z1e c) = false := decide_eq_false (by unfold z1e; omega);rw [e];have h1 : 97 <= c := by omega
  have h2 : ¬ c <= 122 := by omega
  have h3 : 65 <= c := by omega
  have h4 : ¬ c <= 90 := by omega
  clear h;go_enter Tryz.func158, Tryz.ntmps158
  go_wp2
  go_ret
  refine ⟨?_, rfl⟩
  first
  | rfl
  | (show Ending.returned (.bool (decide ((c : Int) <= 90))) = _; rw [show decide ((c : Int) <= 90) = true by simp; omega])
  | (show Ending.returned (.bool (decide ((c : Int) <= 90))) = _; rw [show decide ((c : Int) <= 90) = false by simp; omega])
  | (show Ending.returned (.bool (decide ((c : Int) <= 122) || decide ((c : Int) <= 90))) = _; rw [show decide ((c : Int) <= 122) = false by simp; omega, show decide ((c : Int) <= 90) = false by simp; omega]; rfl)
  | (show Ending.returned (.bool (decide ((c : Int) <= 57))) = _; rw [show decide ((c : Int) <= 57) = true by simp; omega])
  | (show Ending.returned (.bool (decide ((c : Int) <= 57))) = _; rw [show decide ((c : Int) <= 57) = false by simp; omega])
theorem zdd (c : Nat) (w : World) :
 Calls prog 159 #[.int .u8 c] w fun e w' => e = .returned (.bool (decide (z28 c))) /\ w = w' := by
 rcases (by omega : c < 48 ∨ (48 <= c /\ c <= 57) ∨ 57 < c) with h | h | h
 ·have e : decide (z28 c) = false := decide_eq_false (by unfold z28; omega);rw [e];have h1 : ¬ 48 <= c := by omega
  go_enter Tryz.func159, Tryz.ntmps159
  go_wp2
  go_ret
  refine ⟨?_, rfl⟩
  first
  | rfl
  | (show Ending.returned (.bool (decide ((c : Int) <= 90))) = _; rw [show decide ((c : Int) <= 90) = true by simp; omega])
  | (show Ending.returned (.bool (decide ((c : Int) <= 90))) = _; rw [show decide ((c : Int) <= 90) = false by simp; omega])
  | (show Ending.returned (.bool (decide ((c : Int) <= 122) || decide ((c : Int) <= 90))) = _; rw [show decide ((c : Int) <= 122) = false by simp; omega, show decide ((c : Int) <= 90) = false by simp; omega]; rfl)
  | (show Ending.returned (.bool (decide ((c : Int) <= 57))) = _; rw [show decide ((c : Int) <= 57) = true by simp; omega])
  | (show Ending.returned (.bool (decide ((c : Int) <= 57))) = _; rw [show decide ((c : Int) <= 57) = false by simp; omega])
 ·have e : decide (z28 c) = true := decide_eq_true (by unfold z28; omega);rw [e];obtain ⟨h2, h3⟩ := h;go_enter Tryz.func159, Tryz.ntmps159
  go_wp2
  go_ret
  refine ⟨?_, rfl⟩
  first
  | rfl
  | (show Ending.returned (.bool (decide ((c : Int) <= 90))) = _; rw [show decide ((c : Int) <= 90) = true by simp; omega])
  | (show Ending.returned (.bool (decide ((c : Int) <= 90))) = _; rw [show decide ((c : Int) <= 90) = false by simp; omega])
  | (show Ending.returned (.bool (decide ((c : Int) <= 122) || decide ((c : Int) <= 90))) = _; rw [show decide ((c : Int) <= 122) = false by simp; omega, show decide ((c : Int) <= 90) = false by simp; omega]; rfl)
  | (show Ending.returned (.bool (decide ((c : Int) <= 57))) = _; rw [show decide ((c : Int) <= 57) = true by simp; omega])
  | (show Ending.returned (.bool (decide ((c : Int) <= 57))) = _; rw [show decide ((c : Int) <= 57) = false by simp; omega])
 ·have e : decide (z28 c) = false := decide_eq_false (by unfold z28; omega);rw [e];have h1 : 48 <= c := by omega
  have h2 : ¬ c <= 57 := by omega
  go_enter Tryz.func159, Tryz.ntmps159
  go_wp2
  go_ret
  refine ⟨?_, rfl⟩
  first
  | rfl
  | (show Ending.returned (.bool (decide ((c : Int) <= 90))) = _; rw [show decide ((c : Int) <= 90) = true by simp; omega])
  | (show Ending.returned (.bool (decide ((c : Int) <= 90))) = _; rw [show decide ((c : Int) <= 90) = false by simp; omega])
  | (show Ending.returned (.bool (decide ((c : Int) <= 122) || decide ((c : Int) <= 90))) = _; rw [show decide ((c : Int) <= 122) = false by simp; omega, show decide ((c : Int) <= 90) = false by simp; omega]; rfl)
  | (show Ending.returned (.bool (decide ((c : Int) <= 57))) = _; rw [show decide ((c : Int) <= 57) = true by simp; omega])
  | (show Ending.returned (.bool (decide ((c : Int) <= 57))) = _; rw [show decide ((c : Int) <= 57) = false by simp; omega])
def z8l (s : ByteArray) : Prop := 1 <= s.size /\ s.size <= 24 /\ ∀ i c, s.data.toList[i]? = some c -> z1e c.toNat ∨ (i ≠ 0 /\ (z28 c.toNat ∨ c.toNat = 95))
def z1t (s : ByteArray) : Bool := @decide (z8l s) (Classical.propDecidable _)
theorem z2f {s : ByteArray} (h : ¬ z8l s) : z1t s = false := by unfold z1t; exact @decide_eq_false _ (Classical.propDecidable _) h
theorem z9a {s : ByteArray} (h : z8l s) : z1t s = true := by unfold z1t; exact @decide_eq_true _ (Classical.propDecidable _) h
set_option maxRecDepth 100000 in
theorem zb3 (s : ByteArray) (w : World) (hm : s.size <= 1000) :
 Calls prog 136 #[.string s] w fun e w' => e = .returned (.bool (z1t s)) /\ Below w.heap.size w w' := by
 obtain ⟨L, hL⟩ : ∃ L, s.size = L := ⟨_, rfl⟩;by_cases h0 : L < 1 ∨ 24 < L
 ·rw [z2f (fun h => by have := h.1; have := h.2.1; omega)];rcases h0 with h0 | h0
  ·go_enter Tryz.func136, Tryz.ntmps136
   go_wp2
   go_ret
   exact ⟨rfl, Below.refl _ _⟩
  ·have h1 : 1 <= L := by omega
   go_enter Tryz.func136, Tryz.ntmps136
   go_wp2
   go_ret
   exact ⟨rfl, Below.refl _ _⟩
 have h1 : 1 <= L := by omega
 have h2 : L <= 24 := by omega
 clear h0;obtain ⟨c0, hc0⟩ : ∃ c : UInt8, s[0]'(by omega) = c := ⟨_, rfl⟩;have hd0 : s.data.toList[0]? = some c0 := by rw [Lib.data_getElem? s 0 (by omega), hc0]
 have H1 := hid (fun W => z7j c0.toNat W);by_cases hl0 : z1e c0.toNat
 ·rw [decide_eq_true hl0] at H1;have HL0 := hid (And.intro hl0 hd0);clear hl0 hd0;go_enter Tryz.func136, Tryz.ntmps136
  go_wp2_with (go_at_call 158; (with_reducible refine (H1.out _).mono ?_); rintro e w' ⟨rfl, rfl⟩)
  go_loopw [21] (fun vi wr => ∃ k : Nat, vi = .int .i64 k /\ k <= L /\ Hid (∀ i c, i < k -> s.data.toList[i]? = some c -> z1e c.toNat ∨ (z28 c.toNat ∨ c.toNat = 95)) /\ w = wr) (fun vi _ => L - (intOf vi).toNat)
  case atStart => exact ⟨0, rfl, by omega, hid (fun i c h => absurd h (by omega)), rfl⟩
  case round =>
   obtain ⟨k, rfl, hk, HK, rfl⟩ := hrel;by_cases hlt : k < L
   ·obtain ⟨c, hc⟩ : ∃ c : UInt8, s[k]'(by omega) = c := ⟨_, rfl⟩;have hd : s.data.toList[k]? = some c := (by rw [Lib.data_getElem? s k (by omega), hc]);have HD := hid hd;have HL := hid (fun W => z7j c.toNat W);have HG := hid (fun W => zdd c.toNat W);clear hd;by_cases hbad : ¬ z1e c.toNat /\ ¬ z28 c.toNat /\ c.toNat ≠ 95
    ·obtain ⟨b1, b2, b3⟩ := hbad;rw [decide_eq_false b1] at HL;rw [decide_eq_false b2] at HG;have hne : ((c.toNat : Int) != 95) = true := (by simp; omega);have HV := hid (z2f (s := s) (fun h => by rcases h.2.2 k c HD.out with h | ⟨_, h | h⟩; exact b1 h; exact b2 h; exact b3 h));clear b1 b2 b3
     go_wp2_with (first
      | (go_at_call 158; (with_reducible refine (HL.out _).mono ?_); rintro e w' ⟨rfl, rfl⟩)
      | (go_at_call 159; (with_reducible refine (HG.out _).mono ?_); rintro e w' ⟨rfl, rfl⟩))
     go_ret
     exact ⟨by rw [HV.out]; rfl, Below.refl _ _⟩
    ·have hgood : z1e c.toNat ∨ (z28 c.toNat ∨ c.toNat = 95) := by
      by_cases q1 : z1e c.toNat
      ·exact Or.inl q1
      ·by_cases q2 : z28 c.toNat
       ·exact Or.inr (Or.inl q2)
       ·exact Or.inr (Or.inr (by by_cases q3 : c.toNat = 95; exact q3; exact absurd ⟨q1, q2, q3⟩ hbad))
     have HN : Hid (∀ i c, i < k + 1 -> s.data.toList[i]? = some c -> z1e c.toNat ∨ (z28 c.toNat ∨ c.toNat = 95)) := hid fun i c' hi he => by
      by_cases hik : i < k
      ·exact HK.out i c' hik he
      ·obtain rfl : i = k := by omega
       rw [HD.out] at he;cases he;exact hgood
     clear hbad;by_cases q1 : z1e c.toNat
     ·rw [decide_eq_true q1] at HL;clear hgood q1;go_wp2_with (go_at_call 158; (with_reducible refine (HL.out _).mono ?_); rintro e w' ⟨rfl, rfl⟩)
      go_roundw
      case rel => exact ⟨k + 1, by first | rfl | (rw [zd _ (by omega) (by omega)]; rfl), by omega, HN, by first | rfl | trivial⟩
      case measure => (try rw [zd _ (by omega) (by omega)]); simp only [intOf]; omega
     ·rw [decide_eq_false q1] at HL;by_cases q2 : z28 c.toNat
      ·rw [decide_eq_true q2] at HG;clear hgood q1 q2
       go_wp2_with (first
        | (go_at_call 158; (with_reducible refine (HL.out _).mono ?_); rintro e w' ⟨rfl, rfl⟩)
        | (go_at_call 159; (with_reducible refine (HG.out _).mono ?_); rintro e w' ⟨rfl, rfl⟩))
       go_roundw
       case rel => exact ⟨k + 1, by first | rfl | (rw [zd _ (by omega) (by omega)]; rfl), by omega, HN, by first | rfl | trivial⟩
       case measure => (try rw [zd _ (by omega) (by omega)]); simp only [intOf]; omega
      ·rw [decide_eq_false q2] at HG;have q3 : c.toNat = 95 := (by rcases hgood with h | h | h; exact absurd h q1; exact absurd h q2; exact h);have hne : ((c.toNat : Int) != 95) = false := (by rw [q3]; rfl);clear hgood q1 q2 q3
       go_wp2_with (first
        | (go_at_call 158; (with_reducible refine (HL.out _).mono ?_); rintro e w' ⟨rfl, rfl⟩)
        | (go_at_call 159; (with_reducible refine (HG.out _).mono ?_); rintro e w' ⟨rfl, rfl⟩))
       go_roundw
       case rel => exact ⟨k + 1, by first | rfl | (rw [zd _ (by omega) (by omega)]; rfl), by omega, HN, by first | rfl | trivial⟩
       case measure => (try rw [zd _ (by omega) (by omega)]); simp only [intOf]; omega
   ·obtain rfl : k = L := by omega
    have hyes : z8l s := ⟨by omega, by omega, fun i c he => by
     have hi : i < s.size := by have := (List.getElem?_eq_some_iff.1 he).1;exact this
     rcases HK.out i c (by omega) he with h | h
     ·exact Or.inl h
     ·by_cases hi0 : i = 0
      ·subst hi0;rw [HL0.out.2] at he;cases he;exact Or.inl HL0.out.1
      ·exact Or.inr ⟨hi0, h⟩⟩
    have HV := hid (z9a hyes);clear hyes;go_wp2
    go_ret
    exact ⟨by rw [HV.out]; rfl, Below.refl _ _⟩
 ·rw [decide_eq_false hl0] at H1;rw [z2f (fun h => by rcases h.2.2 0 c0 hd0 with h | h; exact hl0 h; exact h.1 rfl)];clear hl0 hd0;go_enter Tryz.func136, Tryz.ntmps136
  go_wp2_with (go_at_call 158; (with_reducible refine (H1.out _).mono ?_); rintro e w' ⟨rfl, rfl⟩)
  go_ret
  exact ⟨rfl, Below.refl _ _⟩
theorem zb4 (n x : Nat) (w : World) (h0 : 1 <= n) (h1 : n <= 64) :
 Calls prog 52 #[.int .i64 n, .int .u64 x] w fun e w' => e = .returned (.bool (okB n x)) /\ w = w' := by
 have H := hid (zhc n x);go_enter Tryz.func52, Tryz.ntmps52
 go_wp2_with (first
  | (go_at_call 89; refine (z6b _ _ (by omega) (by omega)).mono ?_; rintro e w' ⟨rfl, rfl⟩)
  | (go_at_call 49; refine (z4z _ _ h0 h1).mono ?_; rintro e w' ⟨rfl, rfl⟩))
 go_ret
 refine ⟨?_, rfl⟩;show Ending.returned (.bool _) = _;rw [H.out]
theorem zhd (n : Int) (x : Nat) (w : World) (h : n < 1 ∨ 64 < n) :
 Calls prog 52 #[.int .i64 n, .int .u64 x] w fun e w' => e = .returned (.bool false) /\ w = w' := by
 go_enter Tryz.func52, Tryz.ntmps52
 go_wp2_with (go_at_call 89; refine (zc1 _ _ h).mono ?_; rintro e w' ⟨rfl, rfl⟩)
 go_ret
 exact ⟨rfl, rfl⟩
def okW (w : Int) (x : Nat) : Bool := if 1 <= w /\ w <= 64 then okB w.toNat x else false
theorem z6j (w : Int) (x : Nat) (W : World) : Calls prog 52 #[.int .i64 w, .int .u64 x] W fun e w' => e = .returned (.bool (okW w x)) /\ W = w' := by
 by_cases h : 1 <= w /\ w <= 64
 ·obtain ⟨n, rfl⟩ : ∃ n : Nat, w = n := ⟨w.toNat, by omega⟩;rw [show okW n x = okB n x by unfold okW; rw [if_pos h, Int.toNat_natCast]];exact zb4 n x W (by omega) (by omega)
 ·rw [show okW w x = false by unfold okW; rw [if_neg h]];exact zhd w x W (by omega)
theorem z92 (w : Int) (W : World) : Calls prog 198 #[.int .i64 w] W fun e w' => e = .returned (.bool (okW w 0)) /\ W = w' := by
 have H : Hid (∀ W : World, Calls prog 52 #[.int .i64 w, .int .u64 0] W fun e w' => e = .returned (.bool (okW w 0)) /\ W = w') := hid (fun W => z6j w 0 W);go_enter Tryz.func198, Tryz.ntmps198
 go_wp2_with (go_at_call 52; (with_reducible refine (H.out _).mono ?_); rintro e w' ⟨rfl, rfl⟩)
 go_ret
 exact ⟨rfl, rfl⟩
theorem zby (k : Nat) (W : World) : Calls prog 197 #[.int .u8 k] W fun e w' => e = .returned (.bool (decide (1 <= k) && decide (k <= 24))) /\ W = w' := by
 by_cases h : 1 <= k
 ·go_enter Tryz.func197, Tryz.ntmps197
  go_wp2
  go_ret
  refine ⟨?_, rfl⟩;by_cases h2 : k <= 24
  ·have e : decide ((k : Int) <= 24) = true := by simp; omega
   simp [h, h2, e]
  ·have e : decide ((k : Int) <= 24) = false := by simp; omega
   simp [h, h2, e]
 ·go_enter Tryz.func197, Tryz.ntmps197
  go_wp2
  go_ret
  exact ⟨by simp, rfl⟩
def z95 (w : Int) : Bool := w == 8 || w == 16 || w == 32 || w == 64
theorem z38 (w : Int) (W : World) : Calls prog 202 #[.int .i64 w] W fun e w' => e = .returned (.bool (z95 w)) /\ W = w' := by
 by_cases h1 : w = 8
 ·subst h1;go_enter Tryz.func202, Tryz.ntmps202
  go_wp2
  go_ret
  exact ⟨rfl, rfl⟩
 ·by_cases h2 : w = 16
  ·subst h2;go_enter Tryz.func202, Tryz.ntmps202
   go_wp2
   go_ret
   exact ⟨rfl, rfl⟩
  ·by_cases h3 : w = 32
   ·subst h3;go_enter Tryz.func202, Tryz.ntmps202
    go_wp2
    go_ret
    exact ⟨rfl, rfl⟩
   ·have e1 : (w == 8) = false := (by simpa using h1);have e2 : (w == 16) = false := (by simpa using h2);have e3 : (w == 32) = false := (by simpa using h3);have E : Hid (z95 w = (w == 64)) := (by unfold z95; rw [e1, e2, e3]; rfl);clear h1 h2 h3;go_enter Tryz.func202, Tryz.ntmps202
    go_wp2
    go_ret
    refine ⟨?_, rfl⟩;rw [E.out];rfl
def z4g (s : ByteArray) : ByteArray := if 2 <= s.size /\ (s.extract 0 2).toList = [114, 46] then s.extract 2 s.size else s
set_option maxRecDepth 100000 in
theorem zgd (s : ByteArray) (W : World) (hm : s.size <= 1000) : Calls prog 203 #[.string s, .string ⟨#[114, 46]⟩] W fun e w' => e = .returned (.string (z4g s)) /\ W = w' := by
 obtain ⟨L, hL⟩ : ∃ L, s.size = L := ⟨_, rfl⟩;by_cases h2 : 2 <= L
 ·go_enter Tryz.func203, Tryz.ntmps203
  go_wp2_with go_in
  ·rename_i hq;go_ret
   refine ⟨?_, rfl⟩;have : z4g s = s.extract 2 L := by unfold z4g; rw [if_pos ⟨by omega, by simpa using hq⟩, hL]
   rw [this];rfl
  ·rename_i hq;go_ret
   refine ⟨?_, rfl⟩;have : z4g s = s := by unfold z4g; rw [if_neg (fun h => by rw [h.2] at hq; exact absurd hq (by decide))]
   rw [this];rfl
 ·have e : z4g s = s := by unfold z4g; rw [if_neg (fun h => h2 (by omega))]
  rw [e];go_enter Tryz.func203, Tryz.ntmps203
  go_wp2_with go_in
  go_ret
  exact ⟨rfl, rfl⟩
theorem zco (s : ByteArray) : (z4g s).size <= s.size := by
 unfold z4g;split
 ·rw [ByteArray.size_extract]; omega
 ·omega
def varR (s : ByteArray) : Bool := z1t (z4g s)
theorem z2q (s : ByteArray) (W : World) (hm : s.size <= 1000) : Calls prog 201 #[.string s] W fun e w' => e = .returned (.bool (varR s)) /\ Below W.heap.size W w' := by
 have H1 := hid (fun W => zgd s W hm);have H2 := hid (fun W => zb3 (z4g s) W (by have := zco s; omega));rw [show z1t (z4g s) = varR s from rfl] at H2;clear hm;generalize z4g s = t at *;go_enter Tryz.func201, Tryz.ntmps201
 go_wp2_with (first
  | (go_at_call 203; (with_reducible refine (H1.out _).mono ?_); rintro e w' ⟨rfl, rfl⟩)
  | (go_at_call 136; (with_reducible refine (H2.out _).mono ?_); rintro e w' ⟨rfl, hb⟩))
 go_ret
 exact ⟨rfl, hb⟩
def z58 (t : Tm) : Bool := (t.bits == 0 || t.kind == 1) && (t.name.toList == [] || t.kind == 2) && (t.low == 0 || t.kind == 21)
set_option maxRecDepth 100000 in
theorem zgc (t : Tm) (p : Option Addr) (nn cap : Nat) (W : World) :
 Calls prog 199 #[.agg (Tm.cells t (.slice p nn cap)).toArray] W fun e w' => e = .returned (.bool (z58 t)) /\ Below W.heap.size W w' := by
 have E := hid (show z58 t = ((t.bits == 0 || t.kind == 1) && (t.name.toList == [] || t.kind == 2) && (t.low == 0 || t.kind == 21)) from rfl);generalize z58 t = r at *;obtain ⟨k, wd, b, s, lo, l⟩ := t;simp only [Tm.cells, Tm.kind, Tm.width, Tm.bits, Tm.name, Tm.low] at *;go_enter Tryz.func199, Tryz.ntmps199
 go_wp2
 all_goals
  go_ret
  refine ⟨?_, (Below.refl _ _).alloc (Nat.le_refl _) _⟩;rw [E.out];show Ending.returned (Value.bool _) = Ending.returned (Value.bool _);have q1 : ((k : Int) = 1) = (k = 1) := propext ⟨fun h => by omega, fun h => by omega⟩;have q2 : ((k : Int) = 2) = (k = 2) := propext ⟨fun h => by omega, fun h => by omega⟩;have e21 : ((k : Int) == 21) = (k == 21) := by rw [Bool.eq_iff_iff, beq_iff_eq, beq_iff_eq]; omega
  clear E
  (try simp only [q1, q2] at *)
  simp_all
end Go.Proofs.YtdmadnfadgggcaaGreatDoor
