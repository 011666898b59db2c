/- Terms as trees: what a term in memory is, and that a term that came in is one. -/
import Derived.Test.YthogpmddijbigaaGreatDoorTermMem
import Derived.Deep.Slices
import Derived.RowKit
namespace Go.Proofs.YthogpmddijbigaaGreatDoor
open Go.RowKit Go.ChangeShapes Go.WideShapes Go.Deep
set_option linter.unusedVariables false

/-- A term. -/
inductive Tm where
  | mk (kind : Nat) (width : Int) (bits : Nat) (name : ByteArray) (low : Int) (sub : List Tm)
def Tm.kind : Tm → Nat | .mk k _ _ _ _ _ => k
def Tm.width : Tm → Int | .mk _ w _ _ _ _ => w
def Tm.bits : Tm → Nat | .mk _ _ b _ _ _ => b
def Tm.name : Tm → ByteArray | .mk _ _ _ s _ _ => s
def Tm.low : Tm → Int | .mk _ _ _ _ l _ => l
def Tm.sub : Tm → List Tm | .mk _ _ _ _ _ l => l
instance : Inhabited Tm := ⟨.mk 0 0 0 ⟨#[]⟩ 0 []⟩
mutual
/-- The number of nodes. -/
def Tm.sz : Tm → Nat | .mk _ _ _ _ _ l => Tm.szs l + 1
def Tm.szs : List Tm → Nat | [] => 0 | t :: l => t.sz + Tm.szs l
end
mutual
/-- The number of nodes on the longest way down. -/
def Tm.dp : Tm → Nat | .mk _ _ _ _ _ l => Tm.dps l + 1
def Tm.dps : List Tm → Nat | [] => 0 | t :: l => max t.dp (Tm.dps l)
end
theorem Tm.sz_eq (t : Tm) : t.sz = Tm.szs t.sub + 1 := by cases t; simp [Tm.sz, Tm.sub]
theorem Tm.dp_eq (t : Tm) : t.dp = Tm.dps t.sub + 1 := by cases t; simp [Tm.dp, Tm.sub]
theorem Tm.szs_cons (t : Tm) (l : List Tm) : Tm.szs (t :: l) = t.sz + Tm.szs l := by simp [Tm.szs]
theorem Tm.szs_nil : Tm.szs [] = 0 := by simp [Tm.szs]
theorem Tm.szs_append (a b : List Tm) : Tm.szs (a ++ b) = Tm.szs a + Tm.szs b := by
  induction a with
  | nil => simp [Tm.szs]
  | cons t a ih => simp only [List.cons_append, Tm.szs_cons, ih]; omega
theorem Tm.sz_mem {t : Tm} {l : List Tm} (h : t ∈ l) : t.sz ≤ Tm.szs l := by
  induction l with
  | nil => cases h
  | cons u l ih =>
    rw [Tm.szs_cons]
    cases h with
    | head => omega
    | tail _ h => have := ih h; omega
theorem Tm.dp_mem {t : Tm} {l : List Tm} (h : t ∈ l) : t.dp ≤ Tm.dps l := by
  induction l with
  | nil => cases h
  | cons u l ih =>
    simp only [Tm.dps]
    cases h with
    | head => omega
    | tail _ h => have := ih h; omega

/-- The six cells of a term whose list of parts is the slice sv. -/
def Tm.cells (t : Tm) (sv : Value) : List Value := [.int .u8 t.kind, .int .i64 t.width, .int .u64 t.bits, .string t.name, .int .i64 t.low, sv]
/-- Its numbers are of their types. -/
def Tm.fit (t : Tm) : Prop := t.kind < 256 ∧ (-9223372036854775808 ≤ t.width ∧ t.width ≤ 9223372036854775807) ∧ t.bits < 18446744073709551616 ∧ t.name.size ≤ maxLen ∧ (-9223372036854775808 ≤ t.low ∧ t.low ≤ 9223372036854775807)
/-- The slice leads to these terms, all below block B. -/
inductive SubAt (w : World) (B : Nat) : Value → List Tm → Prop
  | mk (p : Option Addr) (n cap : Nat) (ts : List Tm) (S : Nat → Value) (hn : ts.length = n) (hm : n ≤ maxLen)
    (hf : ∀ (i : Nat) (t : Tm), ts[i]? = some t → t.fit)
    (hp : ∀ (i : Nat) (t : Tm), ts[i]? = some t → ∃ b o, p = some ⟨b, o, none⟩ ∧ b < B ∧
      w.cell? ⟨b, o + i * 6, none⟩ = some (.int .u8 t.kind) ∧ w.cell? ⟨b, o + i * 6 + 1, none⟩ = some (.int .i64 t.width) ∧ w.cell? ⟨b, o + i * 6 + 2, none⟩ = some (.int .u64 t.bits) ∧
      w.cell? ⟨b, o + i * 6 + 3, none⟩ = some (.string t.name) ∧ w.cell? ⟨b, o + i * 6 + 4, none⟩ = some (.int .i64 t.low) ∧ w.cell? ⟨b, o + i * 6 + 5, none⟩ = some (S i))
    (hs : ∀ (i : Nat) (t : Tm), ts[i]? = some t → SubAt w B (S i) t.sub) : SubAt w B (.slice p n cap) ts
theorem SubAt.kept {w w' : World} {B : Nat} {v : Value} {ts : List Tm} (h : SubAt w B v ts) (hb : Below B w w') : SubAt w' B v ts := by
  induction h with
  | mk p n cap ts S hn hm hf hp hs ih =>
    refine .mk p n cap ts S hn hm hf (fun i t hi => ?_) (fun i t hi => ih i t hi)
    obtain ⟨b, o, e, h0, c0, c1, c2, c3, c4, c5⟩ := hp i t hi
    exact ⟨b, o, e, h0, by rw [hb.cell h0]; exact c0, by rw [hb.cell h0]; exact c1, by rw [hb.cell h0]; exact c2, by rw [hb.cell h0]; exact c3, by rw [hb.cell h0]; exact c4, by rw [hb.cell h0]; exact c5⟩

theorem SubAt.inv {w : World} {B : Nat} {v : Value} {ts : List Tm} (h : SubAt w B v ts) : ∃ (p : Option Addr) (n cap : Nat) (S : Nat → Value), v = .slice p n cap ∧ ts.length = n ∧ n ≤ maxLen ∧ (∀ (i : Nat) (t : Tm), ts[i]? = some t → t.fit) ∧
    (∀ (i : Nat) (t : Tm), ts[i]? = some t → ∃ b o, p = some ⟨b, o, none⟩ ∧ b < B ∧
      w.cell? ⟨b, o + i * 6, none⟩ = some (.int .u8 t.kind) ∧ w.cell? ⟨b, o + i * 6 + 1, none⟩ = some (.int .i64 t.width) ∧ w.cell? ⟨b, o + i * 6 + 2, none⟩ = some (.int .u64 t.bits) ∧
      w.cell? ⟨b, o + i * 6 + 3, none⟩ = some (.string t.name) ∧ w.cell? ⟨b, o + i * 6 + 4, none⟩ = some (.int .i64 t.low) ∧ w.cell? ⟨b, o + i * 6 + 5, none⟩ = some (S i)) ∧
    (∀ (i : Nat) (t : Tm), ts[i]? = some t → SubAt w B (S i) t.sub) := by
  cases h with
  | mk p n cap ts S hn hm hf hp hs => exact ⟨p, n, cap, S, rfl, hn, hm, hf, hp, hs⟩

theorem cell_lt {W : World} {a : Addr} {v : Value} (h : W.cell? a = some v) : a.block < W.heap.size := Nat.lt_of_not_le fun hle => by
  have hn : W.heap[a.block]? = none := by simp [hle]
  simp [World.cell?, hn] at h

set_option maxRecDepth 100000 in
/-- What the reader met at a term's cells. -/
theorem open_term {H : Type} {enc : TypeId × Value → H} {W : World} : ∀ (fuel : Nat) {cs : List Value} {x : DataW H × List MemPlace},
    DataW.trod enc Tryz.prog W 0 (fun _ => true) true fuel 25 cs = some x → ∃ t sv, cs = Tm.cells t sv ∧ t.fit ∧ SubAt W W.heap.size sv t.sub := by
  intro fuel
  induction fuel using Nat.strongRecOn with
  | _ fuel ih =>
    intro cs x h
    obtain ⟨xs, n, rfl, _, hcl, hxl, hf⟩ := DataW.trod_struct Tryz.underlying25 h
    have hcells : Tryz.prog.cellsOf 25 = 6 := by kernel_rfl
    rw [hcells] at hcl
    have e1 : Tryz.prog.cellsOf 5 = 1 := by kernel_rfl
    have e2 : Tryz.prog.cellsOf 3 = 1 := by kernel_rfl
    have e3 : Tryz.prog.cellsOf 22 = 1 := by kernel_rfl
    have e4 : Tryz.prog.cellsOf 9 = 1 := by kernel_rfl
    have e5 : Tryz.prog.cellsOf 23 = 1 := by kernel_rfl
    match cs, hcl, xs, hxl with
    | [v0, v1, v2, v3, v4, v5], _, [y0, y1, y2, y3, y4, y5], _ =>
      have g0 : DataW.trod enc Tryz.prog W 0 (fun _ => true) true n 5 (List.take (Tryz.prog.cellsOf 5) [v0, v1, v2, v3, v4, v5]) = some y0 := hf 0 _ rfl
      have g1 : DataW.trod enc Tryz.prog W 0 (fun _ => true) true n 3 (List.take (Tryz.prog.cellsOf 3) [v1, v2, v3, v4, v5]) = some y1 := hf 1 _ rfl
      have g2 : DataW.trod enc Tryz.prog W 0 (fun _ => true) true n 22 (List.take (Tryz.prog.cellsOf 22) [v2, v3, v4, v5]) = some y2 := hf 2 _ rfl
      have g3 : DataW.trod enc Tryz.prog W 0 (fun _ => true) true n 9 (List.take (Tryz.prog.cellsOf 9) [v3, v4, v5]) = some y3 := hf 3 _ rfl
      have g4 : DataW.trod enc Tryz.prog W 0 (fun _ => true) true n 3 (List.take (Tryz.prog.cellsOf 3) [v4, v5]) = some y4 := hf 4 _ rfl
      have g5 : DataW.trod enc Tryz.prog W 0 (fun _ => true) true n 23 (List.take (Tryz.prog.cellsOf 23) [v5]) = some y5 := hf 5 _ rfl
      rw [e1] at g0
      rw [e2] at g1 g4
      rw [e3] at g2
      rw [e4] at g3
      rw [e5] at g5
      obtain ⟨z0, q0, _, w0⟩ := DataW.trod_int Tryz.underlying5 g0
      obtain ⟨z1, q1, _, w1⟩ := DataW.trod_int Tryz.underlying3 g1
      obtain ⟨z2, q2, _, w2⟩ := DataW.trod_int Tryz.underlying22 g2
      obtain ⟨z3, q3, _, w3⟩ := DataW.trod_string Tryz.underlying9 g3
      obtain ⟨z4, q4, _, w4⟩ := DataW.trod_int Tryz.underlying3 g4
      simp only [List.take_succ_cons, List.take_zero, List.cons.injEq, and_true] at q0 q1 q2 q3 q4
      simp [Lit.wf, IntKind.min, IntKind.max, IntKind.bits, IntKind.signed] at w0 w1 w2 w4
      subst q0; subst q1; subst q2; subst q3; subst q4
      obtain ⟨k, rfl⟩ : ∃ k : Nat, z0 = k := ⟨z0.toNat, by omega⟩
      obtain ⟨b, rfl⟩ : ∃ k : Nat, z2 = k := ⟨z2.toNat, by omega⟩
      have hsub : ∃ ts, SubAt W W.heap.size v5 ts := by
        rcases DataW.trod_slice Tryz.underlying23 g5 with ⟨h1, _⟩ | ⟨a, len, cap, elems, rest, n', hn', h1, _, _, hl, hmx, hlen, hel, _, _⟩
        · simp only [List.take_succ_cons, List.take_zero, List.cons.injEq, and_true] at h1
          subst h1
          exact ⟨[], .mk none 0 0 [] (fun _ => .nilFunc) rfl (by unfold maxLen; omega) (fun i t h => by simp at h) (fun i t h => by simp at h) (fun i t h => by simp at h)⟩
        · simp only [List.take_succ_cons, List.take_zero, List.cons.injEq, and_true] at h1
          subst h1
          have each : ∀ i, i < len → ∃ q : Tm × Value, W.cells? 0 (a.add (i * 6)) 6 = some (Tm.cells q.1 q.2) ∧ q.1.fit ∧ SubAt W W.heap.size q.2 q.1.sub := fun i hi => by
            have h2 := hel i hi
            rw [hcells, List.getElem?_eq_getElem (by omega)] at h2
            obtain ⟨cs', h3, h4⟩ := Option.bind_eq_some_iff.1 h2
            obtain ⟨t, sv, rfl, h5, h6⟩ := ih n' (by omega) h4
            exact ⟨(t, sv), h3, h5, h6⟩
          obtain ⟨Q, hQ⟩ := choose_lt each
          have hts : ∀ (i : Nat) (t : Tm), ((List.range len).map fun i => (Q i).1)[i]? = some t → i < len ∧ t = (Q i).1 := fun i t h => by
            rw [List.getElem?_map] at h
            have hi : i < len := by
              by_cases hi : i < len
              · exact hi
              · rw [List.getElem?_eq_none (by simp; omega)] at h
                cases h
            rw [List.getElem?_range hi] at h
            exact ⟨hi, (Option.some.inj h).symm⟩
          refine ⟨(List.range len).map fun i => (Q i).1, .mk (some a) len cap _ (fun i => (Q i).2) (by simp) (by omega) (fun i t h => ?_) (fun i t h => ?_) (fun i t h => ?_)⟩
          · obtain ⟨hi, rfl⟩ := hts i t h
            exact (hQ i hi).2.1
          · obtain ⟨hi, rfl⟩ := hts i t h
            obtain ⟨_, _, hc⟩ := World.cells?_some (hQ i hi).1
            obtain ⟨_, _, hc0⟩ := World.cells?_some (hQ 0 (by omega)).1
            obtain ⟨b, o, spot⟩ := a
            have hspot : spot = none := by
              have := hc0 0 (by omega)
              rw [add_add] at this
              simpa [Addr.add] using World.cell?_spot this
            subst hspot
            have c0 := hc 0 (by omega)
            have c1 := hc 1 (by omega)
            have c2 := hc 2 (by omega)
            have c3 := hc 3 (by omega)
            have c4 := hc 4 (by omega)
            have c5 := hc 5 (by omega)
            rw [add_add, add_plain] at c0 c1 c2 c3 c4 c5
            exact ⟨b, o, rfl, cell_lt c0, c0, by rw [Nat.add_assoc]; exact c1, by rw [Nat.add_assoc]; exact c2, by rw [Nat.add_assoc]; exact c3, by rw [Nat.add_assoc]; exact c4, by rw [Nat.add_assoc]; exact c5⟩
          · obtain ⟨hi, rfl⟩ := hts i t h
            exact (hQ i hi).2.2
      obtain ⟨ts, hts⟩ := hsub
      exact ⟨.mk k z1 b z3 z4 ts, v5, rfl, ⟨by simp [Tm.kind]; omega, ⟨w1.1, by simp [Tm.width]; omega⟩, by simp [Tm.bits]; omega, w3, ⟨w4.1, by simp [Tm.low]; omega⟩⟩, hts⟩
end Go.Proofs.YthogpmddijbigaaGreatDoor
