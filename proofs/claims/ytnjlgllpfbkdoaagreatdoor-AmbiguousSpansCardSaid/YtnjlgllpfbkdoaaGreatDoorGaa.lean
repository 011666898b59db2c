/- Merged texts: ASrc, AmbSpanMath. -/
import Derived.Test.YtnjlgllpfbkdoaaGreatDoorGt
import Derived.Deep.AppendLies
import Derived.OwnWalk
import Derived.Maps.AppendAt
import Derived.Laws.OwnMore
import Derived.BigFrame
namespace Go.Proofs.YtnjlgllpfbkdoaaGreatDoor
open Go.RowKit
set_option linter.unusedVariables false
set_option linter.unusedSimpArgs false

/-- m elements of size cells each, the cells f, lie behind a slice's address. -/
def SrcAt (w : World) (A : Option Addr) (m size : Nat) (f : Nat → Value) : Prop := 0 < m → ∃ b o, A = some ⟨b, o, none⟩ ∧ b < w.heap.size ∧ ∀ j, j < m * size → w.cell? ⟨b, o + j, none⟩ = some (f j)
theorem SrcAt.below {w w' : World} {A : Option Addr} {m size : Nat} {f : Nat → Value} (h : SrcAt w A m size f) (hb : Below w.heap.size w w') : SrcAt w' A m size f := fun h0 => by
  obtain ⟨b, o, e, h1, h2⟩ := h h0
  exact ⟨b, o, e, Nat.lt_of_lt_of_le h1 hb.size, fun j hj => by rw [hb.cell h1]; exact h2 j hj⟩
section
variable {P : Program} {w : World}
/-- The append of a list that may be empty, and then nil, onto a row of the call's own. -/
theorem run_append_src (base : Nat) (t ty e : TypeId) (i : TypeInfo) (z : Value) (size bytes : Nat) (ht : P.underlying t = some (.slice e)) (hi : P.info? e = some i) (hz : i.zero = some z)
    (hsize : i.size = size) (hby : i.bytes = bytes) (hzs : z.cells.size = size) (hsz : 0 < size)
    (v : Value) (n : Nat) (xs : List Value) (hown : w.ownsRow base e size v n xs)
    (A : Option Addr) (m c : Nat) (f : Nat → Value) (hr : SrcAt w A m size f) (h1 : ∀ j, (f j).oneCell' = true)
    (h63 : n + m ≤ maxLen) (hbytes : (n + m) * bytes ≤ 140737488355328) (hbase : base ≤ w.heap.size) :
    ∃ v' w', (Builtin.append_ #[t, t] ty #[v, .slice A m c]).run P w = .ok v' w' ∧ w'.ownsRow base e size v' (n + m) (xs ++ (List.range (m * size)).map f) ∧ w.grownBy w' v.ownBlock := by
  rcases A with _ | ad
  · have hm : m = 0 := by
      rcases Nat.eq_zero_or_pos m with h | h
      · exact h
      · obtain ⟨b, o, e, _⟩ := hr h; cases e
    subst hm
    subst hsize
    refine ⟨v, w, ?_, by simpa using hown, World.grownBy.refl w _⟩
    rcases hown.2 with ⟨rfl, hn⟩ | ⟨g, cap, cur, rfl, _, _, h3, _⟩
    · subst hn
      simp [Builtin.append_, run_underlying ht, sizeOf, typeInfo, hi, Builtin.lenOf, Builtin.firstCells, storeCells]
    · simp [Builtin.append_, run_underlying ht, sizeOf, typeInfo, hi, Builtin.lenOf, Builtin.firstCells, storeCells, h3]
  · obtain ⟨v', w', k1, k2, k3, _⟩ := run_append_own_at (P := P) w base t ty e i z size bytes ht hi hz hsize hby hzs hsz v n xs hown ad m c ((List.range (m * size)).map f) (by simp) (fun j u hu => by
      have hj : j < m * size := by
        rcases Nat.lt_or_ge j (m * size) with h | h
        · exact h
        · rw [List.getElem?_eq_none (by simpa using h)] at hu; cases hu
      have h0 : 0 < m := by
        rcases Nat.eq_zero_or_pos m with h | h
        · rw [h] at hj; simp at hj
        · exact h
      obtain ⟨b, o, e, hb, hc⟩ := hr h0
      cases e
      rw [List.getElem?_map, List.getElem?_range hj] at hu
      obtain rfl := Option.some.inj hu
      have hadd : (⟨b, o, none⟩ : Addr).add j = ⟨b, o + j, none⟩ := by unfold Addr.add; split <;> simp_all
      rw [hadd]
      exact hc j hj) (fun u hu => by
        obtain ⟨j, _, rfl⟩ := List.mem_map.1 hu
        exact h1 j) h63 hbytes hbase
    exact ⟨v', w', k1, k2, k3⟩

theorem wpList_append_src {ops : Array Oper} {rest : List Oper} {o : Oper} {a : Act} {Q : Exit → Act → World → Prop} (hgd : o.guard = none) (s x : Operand) (t : TypeId)
    (ho : o.op = .call { callee := .builtin .append, args := #[s, x], argTypes := #[t, t] })
    (base : Nat) (e : TypeId) (i : TypeInfo) (z : Value) (size bytes : Nat) (ht : P.underlying t = some (.slice e)) (hi : P.info? e = some i) (hz : i.zero = some z)
    (hsize : i.size = size) (hby : i.bytes = bytes) (hzs : z.cells.size = size) (hsz : 0 < size)
    (v : Value) (n : Nat) (xs : List Value) (hs : a.eval s = v) (hown : w.ownsRow base e size v n xs)
    (A : Option Addr) (m c : Nat) (f : Nat → Value) (hx : a.eval x = .slice A m c) (hr : SrcAt w A m size f) (h1 : ∀ j, (f j).oneCell' = true)
    (h63 : n + m ≤ maxLen) (hbytes : (n + m) * bytes ≤ 140737488355328) (hbase : base ≤ w.heap.size)
    (h : ∀ v' w', w'.ownsRow base e size v' (n + m) (xs ++ (List.range (m * size)).map f) → w.grownBy w' v.ownBlock → wpList P ops Q rest (a.put o.dst v') w') :
    wpList P ops Q (o :: rest) a w := by
  refine wpList_plain hgd fun K hK => ?_
  obtain ⟨v', w', hr', h2, h3⟩ := run_append_src (P := P) (w := w) base t o.type e i z size bytes ht hi hz hsize hby hzs hsz v n xs hown A m c f hr h1 h63 hbytes hbase
  unfold Oper.wp execOp
  simp only [ho, resolve, invoke, builtin, Sem.run_bind, Sem.run_pure, Result.andThen_ok, List.map_toArray, List.map_cons, List.map_nil, hs, hx, hr']
  exact hK _ _ (h v' w' h2 h3)
end

end Go.Proofs.YtnjlgllpfbkdoaaGreatDoor
namespace Go.Proofs.YtnjlgllpfbkdoaaGreatDoor
open Go.RowKit Go.Instr Go.Sort
set_option linter.unusedVariables false
set_option linter.unusedSimpArgs false
set_option maxRecDepth 100000

theorem holeB_add (L : List Shp) (fr a i : Nat) : holeB L fr (a + i) = holeB L (fr + a) i := by unfold holeB; rw [Nat.add_assoc]
theorem holeK_add (L : List Shp) (fr a : Nat) : ∀ b, holeK L fr (a + b) = holeK L fr a ++ holeK L (fr + a) b
  | 0 => by simp [holeK, plK]
  | b + 1 => by
    rw [← Nat.add_assoc, holeK_succ, holeK_succ, holeK_add L fr a b, holeB_add, List.append_assoc, Nat.add_assoc]
theorem holErr_chk {m : Mach} {fr : Nat} {n : Int} (h : holErr m fr n = 0) : chkR m = 0 ∧ (0 ≤ n ∧ n ≤ 4096) ∧ fr ≤ endR m ∧ n.toNat ≤ endR m - fr := by
  unfold holErr at h
  by_cases hc : chkR m = 0
  · rw [if_pos hc] at h
    by_cases h1 : 0 ≤ n ∧ n ≤ 4096
    · rw [if_pos h1] at h
      by_cases h2 : fr ≤ endR m ∧ n.toNat ≤ endR m - fr
      · exact ⟨hc, h1, h2⟩
      · rw [if_neg h2] at h; cases h
    · rw [if_neg h1] at h; cases h
  · rw [if_neg hc] at h; exact absurd h hc
theorem holErr_zero {m : Mach} {fr : Nat} {n : Int} (hc : chkR m = 0) (h1 : 0 ≤ n ∧ n ≤ 4096) (h2 : fr ≤ endR m ∧ n.toNat ≤ endR m - fr) : holErr m fr n = 0 := by
  unfold holErr
  rw [if_pos hc, if_pos h1, if_pos h2]
/-- The holes of a span and of its parts. -/
theorem hol_split {m : Mach} {fr a b : Nat} (h : holErr m fr ((a + b : Nat) : Int) = 0) (ha : a ≤ 300) (hb : b ≤ 300) :
    chkR m = 0 ∧ fr + a ≤ 4294967296 ∧ holErr m fr (a : Int) = 0 ∧ holErr m (fr + a) (b : Int) = 0 ∧ holL m fr ((a + b : Nat) : Int) = holL m fr (a : Int) ++ holL m (fr + a) (b : Int) ∧ (holL m fr (a : Int)).length ≤ 300 ∧ (holL m (fr + a) (b : Int)).length ≤ 300 := by
  obtain ⟨hc, h1, h2, h3⟩ := holErr_chk h
  rw [Int.toNat_natCast] at h3
  have he : endR m ≤ 4294967296 := pow_le32 (by have := word_of hc; omega)
  have e1 : holErr m fr (a : Int) = 0 := holErr_zero hc ⟨by omega, by omega⟩ ⟨h2, by rw [Int.toNat_natCast]; omega⟩
  have e2 : holErr m (fr + a) (b : Int) = 0 := holErr_zero hc ⟨by omega, by omega⟩ ⟨by omega, by rw [Int.toNat_natCast]; omega⟩
  have k1 := holeK_len (m.instrs.map (shapeR m)) fr a
  have k2 := holeK_len (m.instrs.map (shapeR m)) (fr + a) b
  refine ⟨hc, by omega, e1, e2, ?_, ?_, ?_⟩
  · unfold holL
    rw [if_pos h, if_pos e1, if_pos e2, Int.toNat_natCast, Int.toNat_natCast, Int.toNat_natCast, holeK_add]
  · unfold holL; rw [if_pos e1, Int.toNat_natCast]; omega
  · unfold holL; rw [if_pos e2, Int.toNat_natCast]; omega
theorem hol_nil {m : Mach} {fr : Nat} {n : Int} (h : holErr m fr n ≠ 0) : holL m fr n = [] := by unfold holL; rw [if_neg h]

def u64V (x : Nat) : Value := .int .u64 (x : Nat)
/-- A list of words behind a slice. -/
def WordsAt (w : World) (v : Value) (L : List Nat) : Prop := ∃ A c, v = .slice A L.length c ∧ ∀ (i : Nat) (x : Nat), L[i]? = some x → ∃ b o, A = some ⟨b, o, none⟩ ∧ b < w.heap.size ∧ w.cell? ⟨b, o + i, none⟩ = some (.int .u64 (x : Nat)) ∧ x < 18446744073709551616
theorem WordsAt.of {w : World} {v : Value} {L : List Nat} (h : RowsAt 1 u64C w v L) : WordsAt w v L := by
  obtain ⟨A, c, rfl, _, _, _, hall⟩ := h
  refine ⟨A, c, rfl, fun i x hx => ?_⟩
  obtain ⟨b, o, cs, e2, hb, hcl, hcell, hE, hlt⟩ := hall i x hx
  subst hE
  exact ⟨b, o, e2, hb, by have := hcell 0 _ rfl; rwa [Nat.mul_one] at this, hlt⟩
theorem WordsAt.below {w w' : World} {v : Value} {L : List Nat} (h : WordsAt w v L) (hb : Below w.heap.size w w') : WordsAt w' v L := by
  obtain ⟨A, c, rfl, hall⟩ := h
  refine ⟨A, c, rfl, fun i x hx => ?_⟩
  obtain ⟨b, o, e, h1, h2, h3⟩ := hall i x hx
  exact ⟨b, o, e, Nat.lt_of_lt_of_le h1 hb.size, by rw [hb.cell h1]; exact h2, h3⟩
theorem src_words {w : World} {A : Option Addr} {n c : Nat} {L : List Nat} (h : WordsAt w (.slice A n c) L) : SrcAt w A n 1 (fun j => u64V (L.getD j 0)) := fun h0 => by
  obtain ⟨A', c', e, hall⟩ := h
  obtain ⟨rfl, rfl, rfl⟩ : A = A' ∧ n = L.length ∧ c = c' := by cases e; exact ⟨rfl, rfl, rfl⟩
  obtain ⟨b, o, e1, hb, _⟩ := hall 0 _ (List.getElem?_eq_getElem h0)
  refine ⟨b, o, e1, hb, fun j hj => ?_⟩
  rw [Nat.mul_one] at hj
  obtain ⟨b', o', e2, _, hc, _⟩ := hall j _ (List.getElem?_eq_getElem hj)
  obtain ⟨rfl, rfl⟩ : b = b' ∧ o = o' := by rw [e1] at e2; cases e2; exact ⟨rfl, rfl⟩
  rw [hc]
  simp [u64V, List.getD, List.getElem?_eq_getElem hj]
theorem range_words (L : List Nat) : (List.range (L.length * 1)).map (fun j => u64V (L.getD j 0)) = L.map u64V := by
  apply List.ext_getElem?
  intro i
  rw [List.getElem?_map, List.getElem?_map, Nat.mul_one]
  rcases Nat.lt_or_ge i L.length with h | h
  · rw [List.getElem?_range h, List.getElem?_eq_getElem h]
    simp [List.getD, List.getElem?_eq_getElem h]
  · rw [List.getElem?_eq_none (by simpa using h), List.getElem?_eq_none h]; rfl
theorem words_flat : ∀ (L : List Nat), L.map u64V = (L.map fun x => [u64V x]).flatten
  | [] => rfl
  | x :: L => by rw [List.map_cons, List.map_cons, List.flatten_cons, words_flat L]; rfl
theorem own_words {w : World} {base : Nat} {e : TypeId} {v : Value} {L : List Nat} {n : Nat} (hn : n = L.length) (h : w.ownsRow base e 1 v n (L.map u64V)) (hm : L.length ≤ maxLen) (hL : ∀ x ∈ L, x < 18446744073709551616) : WordsAt w v L := by
  subst hn
  rw [words_flat] at h
  refine WordsAt.of (rows_own h ⟨by simp, fun c hc => ?_, fun i x c hx hc => ?_⟩ hm)
  · obtain ⟨x, _, rfl⟩ := List.mem_map.1 hc; rfl
  · rw [List.getElem?_map, hx] at hc
    obtain rfl : [u64V x] = c := by simpa using hc
    exact ⟨rfl, hL x (List.mem_of_getElem? hx)⟩
theorem words_lt {w : World} {v : Value} {L : List Nat} (h : WordsAt w v L) : ∀ x ∈ L, x < 18446744073709551616 := fun x hx => by
  obtain ⟨A, c, rfl, hall⟩ := h
  obtain ⟨i, hi, e⟩ := List.getElem_of_mem hx
  obtain ⟨_, _, _, _, _, h⟩ := hall i x (by rw [List.getElem?_eq_getElem hi, e])
  exact h

/-- The append of a list behind a slice, under a guard that says yes. -/
theorem wpList_append_wsrc {P : Program} {w : World} {ops : Array Oper} {rest : List Oper} {o : Oper} {a : Act} {Q : Exit → Act → World → Prop} (hgd : Region.wanted o (yielded ops a.tmps) = true) (s x : Operand) (t : TypeId)
    (ho : o.op = .call { callee := .builtin .append, args := #[s, x], argTypes := #[t, t] })
    (base : Nat) (e : TypeId) (i : TypeInfo) (z : Value) (size bytes : Nat) (ht : P.underlying t = some (.slice e)) (hi : P.info? e = some i) (hz : i.zero = some z)
    (hsize : i.size = size) (hby : i.bytes = bytes) (hzs : z.cells.size = size) (hsz : 0 < size)
    (v : Value) (n : Nat) (xs : List Value) (hs : a.eval s = v) (hown : w.ownsRow base e size v n xs)
    (A : Option Addr) (m c : Nat) (f : Nat → Value) (hx : a.eval x = .slice A m c) (hr : SrcAt w A m size f) (h1 : ∀ j, (f j).oneCell' = true)
    (h63 : n + m ≤ maxLen) (hbytes : (n + m) * bytes ≤ 140737488355328) (hbase : base ≤ w.heap.size)
    (h : ∀ v' w', w'.ownsRow base e size v' (n + m) (xs ++ (List.range (m * size)).map f) → w.grownBy w' v.ownBlock → wpList P ops Q rest (a.put o.dst v') w') :
    wpList P ops Q (o :: rest) a w := by
  refine BigFrame.wpList_want hgd fun K hK => ?_
  obtain ⟨v', w', hr', h2, h3⟩ := run_append_src (P := P) (w := w) base t o.type e i z size bytes ht hi hz hsize hby hzs hsz v n xs hown A m c f hr h1 h63 hbytes hbase
  unfold Oper.wp execOp
  simp only [ho, resolve, invoke, builtin, Sem.run_bind, Sem.run_pure, Result.andThen_ok, List.map_toArray, List.map_cons, List.map_nil, hs, hx, hr']
  exact hK _ _ (h v' w' h2 h3)
theorem u64V_one (L : List Nat) : ∀ j, (u64V (L.getD j 0)).oneCell' = true := fun _ => rfl
theorem sameWords_any (w : World) (v v' : Value) (L : List Nat) (h : WordsAt w v L) (h' : WordsAt w v' L) (hL : L.length ≤ 1000000) :
    Calls Tryz.prog 25 #[v, v'] w fun e w' => e = .returned (.bool true) ∧ Below w.heap.size w w' := by
  have HP := Lib.hid (And.intro h h')
  obtain ⟨A, c, rfl, _⟩ := h
  obtain ⟨A', c', rfl, _⟩ := h'
  obtain ⟨n, hn⟩ : ∃ n, L.length = n := ⟨_, rfl⟩
  have HN := Lib.hid hn
  rw [hn] at hL ⊢
  clear hn
  go_enter Tryz.func25, Tryz.ntmps25
  go_wp2
  go_loopw [5] (fun vi wr => ∃ k : Nat, vi = .int .i64 k ∧ k ≤ n ∧ Below w.heap.size w wr) (fun vi _ => n - (intOf vi).toNat)
  case atStart => exact ⟨0, rfl, by omega, Below.refl _ _⟩
  case round =>
    obtain ⟨k, rfl, hk, hb⟩ := hrel
    have HB := Lib.hid hb
    clear hb
    by_cases hlt : k < n
    · have hx : L[k]? = some (L[k]'(by rw [HN.out]; exact hlt)) := List.getElem?_eq_getElem _
      obtain ⟨x, hxx⟩ : ∃ x, L[k]? = some x := ⟨_, hx⟩
      clear hx
      obtain ⟨A1, c1, e1, hall⟩ := HP.out.1.below HB.out
      obtain ⟨A2, c2, e2, hall'⟩ := HP.out.2.below HB.out
      obtain ⟨rfl, rfl⟩ : A = A1 ∧ c = c1 := by cases e1; exact ⟨rfl, rfl⟩
      obtain ⟨rfl, rfl⟩ : A' = A2 ∧ c' = c2 := by cases e2; exact ⟨rfl, rfl⟩
      obtain ⟨b, o, hp, hb1, x0, _⟩ := hall k x hxx
      obtain ⟨b', o', hp', hb1', x1, _⟩ := hall' k x hxx
      subst hp hp'
      clear e1 e2 hall hall' hxx
      have K0 := fun d os => cell_regrown x0 d os
      have K1 := fun d os => cell_regrown x1 d os
      have hj0 : (0 : Int) ≤ (k : Int) := Int.natCast_nonneg _
      have hj1 : (k : Int) < (n : Int) := by omega
      go_wp2_with fail
      clear x0 x1
      refine wp_region_quiet_below (by kernel_rfl) (by kernel_rfl) ?_
      repeat (first | go_big_quiet_step (fail) | quiet_step (fail))
      refine wpQuiet_nil ?_
      intro _ hw'
      obtain ⟨⟨dq, osq⟩, hw''⟩ := hw'
      subst hw''
      have HB1 := Lib.hid (HB.out.trans ((below_regrown wr dq osq).mono HB.out.size))
      generalize grow (redrawn wr dq) osq = w1 at *
      clear K0 K1
      go_wp2
      go_roundw
      case rel => exact ⟨k + 1, by first | rfl | (rw [wrap64_small _ (by omega) (by omega)]; rfl), by omega, HB1.out⟩
      case measure => (try rw [wrap64_small _ (by omega) (by omega)]); simp only [intOf]; omega
    · obtain rfl : k = n := by omega
      go_wp2
      go_ret
      exact ⟨rfl, HB.out⟩
end Go.Proofs.YtnjlgllpfbkdoaaGreatDoor
