/- Lists of truth values in memory, and the values of the nodes of a circuit, in plain words. -/
import Derived.Test.YtmbogdimjbhbmaaBlastTwin
import Derived.Maps.AppendAt
import Derived.Laws.OwnMore
import Derived.Laws.EntriesVeiled
import Derived.OneCell
import Derived.RangeFuncBox
namespace Go.Proofs.Ytmbogdimjbhbmaa
open Go.RowKit
set_option linter.unusedVariables false
set_option linter.unusedSimpArgs false

theorem i64_and1 (n : Int) : bits .and .i64 n 1 = n % 2 := by
  have h1 : (BitVec.ofInt 64 1).toNat = 2 ^ 1 - 1 := by decide
  have key : (BitVec.ofInt 64 n &&& BitVec.ofInt 64 1).toNat = (n % ((2 ^ 64 : Nat) : Int)).toNat % 2 ^ 1 := by
    rw [BitVec.toNat_and, BitVec.toNat_ofInt, h1, Nat.and_two_pow_sub_one_eq_mod]
  show IntKind.i64.wrap ((BitVec.ofInt 64 n &&& BitVec.ofInt 64 1).toNat : Nat) = n % 2
  rw [key, IntKind.wrap_i64]
  omega

theorem inverts_any (l : Int) (w : World) : Calls Try.prog 17 #[.int .i64 l] w fun e w' => e = .returned (.bool (decide (l % 2 = 1))) ∧ w = w' := by
  have HA := i64_and1 l
  obtain ⟨r, hr⟩ : ∃ r, r = bits .and .i64 l 1 := ⟨_, rfl⟩
  have hr2 : l % 2 = r := by rw [hr, HA]
  rw [hr2]
  clear hr2 HA
  go_enter Try.func17, Try.ntmps17
  go_wp2
  go_ret
  refine ⟨?_, rfl⟩
  have h : (r == 1) = decide (r = 1) := by rw [Bool.eq_iff_iff]; simp
  rw [← h]
  try rw [← hr]
  rfl

theorem Calls.below_of {f : FuncId} {args : Array Value} {w : World} {v : Value} (h : Calls Try.prog f args w fun e w' => e = .returned v ∧ w = w') :
    Calls Try.prog f args w fun e w' => e = .returned v ∧ Below w.heap.size w w' := h.mono fun _ _ ⟨he, hw⟩ => ⟨he, by rw [← hw]; exact Below.refl _ _⟩

theorem bool_info : (Try.prog.info? 4).map (fun i => (i.zero, i.size, i.bytes)) = some (some (.bool false), 1, 1) := by kernel_rfl

/-- n truth values lie behind a slice's address. -/
def BoolsAt (w : World) (p : Option Addr) (n : Nat) (V : Nat → Bool) : Prop :=
  ∀ i, i < n → ∃ b o, p = some ⟨b, o, none⟩ ∧ b < w.heap.size ∧ w.cell? ⟨b, o + i, none⟩ = some (.bool (V i))
theorem BoolsAt.below {w w' : World} {p : Option Addr} {n : Nat} {V : Nat → Bool} (h : BoolsAt w p n V) (hb : Below w.heap.size w w') : BoolsAt w' p n V := by
  intro i hi
  obtain ⟨b, o, e, h1, h2⟩ := h i hi
  exact ⟨b, o, e, Nat.lt_of_lt_of_le h1 hb.size, by rw [hb.cell h1]; exact h2⟩
def boolC (V : Nat → Bool) (j : Nat) : Value := .bool (V j)
theorem BoolsAt.src {w : World} {p : Option Addr} {n : Nat} {V : Nat → Bool} (h : BoolsAt w p n V) : SrcAt w p n 1 (boolC V) := fun h0 => by
  obtain ⟨b, o, e, h1, _⟩ := h 0 h0
  refine ⟨b, o, e, h1, fun j hj => ?_⟩
  obtain ⟨b', o', e', _, h3⟩ := h j (by omega)
  rw [e] at e'
  injection e' with e'
  injection e' with e1 e2 e3
  subst e1 e2
  exact h3

/-- A list of truth values, as cells. -/
def bls (l : List Bool) : List Value := l.map Value.bool
theorem bls_length (l : List Bool) : (bls l).length = l.length := by simp [bls]
theorem bls_append (l m : List Bool) : bls (l ++ m) = bls l ++ bls m := by simp [bls]
theorem bls_get (l : List Bool) (i : Nat) (h : i < l.length) : (bls l)[i]? = some (.bool (l.getD i false)) := by simp [bls, h]
theorem bls_range (V : Nat → Bool) (n : Nat) : bls ((List.range n).map V) = (List.range n).map (boolC V) := by simp [bls, boolC, Function.comp_def]
/-- A row of truth values in memory of the call's own. -/
def RowB (w : World) (base : Nat) (v : Value) (l : List Bool) : Prop := w.ownsRow base 4 1 v l.length (bls l)
theorem RowB.kept {w w' : World} {base : Nat} {v : Value} {l : List Bool} (h : RowB w base v l) (hb : Below w.heap.size w w') : RowB w' base v l := by
  obtain ⟨h1, h2⟩ := h
  refine ⟨h1, ?_⟩
  rcases h2 with h2 | ⟨g, cap, cur, hv, hg, hh, r⟩
  · exact Or.inl h2
  · refine Or.inr ⟨g, cap, cur, hv, hg, ?_, r⟩
    have hlt : g < w.heap.size := by
      rcases Nat.lt_or_ge g w.heap.size with h | h
      · exact h
      · rw [Array.getElem?_eq_none h] at hh; cases hh
    rw [hb.block g hlt]; exact hh
theorem RowB.base {w : World} {base base' : Nat} {v : Value} {l : List Bool} (h : RowB w base v l) (hb : base' ≤ base) : RowB w base' v l := by
  obtain ⟨h1, h2⟩ := h
  refine ⟨h1, ?_⟩
  rcases h2 with h2 | ⟨g, cap, cur, hv, hg, hh, r⟩
  · exact Or.inl h2
  · exact Or.inr ⟨g, cap, cur, hv, by omega, hh, r⟩
/-- What a reader sees of it. -/
theorem RowB.read {w : World} {base : Nat} {v : Value} {l : List Bool} (h : RowB w base v l) : ∃ p c, v = .slice p l.length c ∧ BoolsAt w p l.length (fun i => l.getD i false) := by
  rcases h.2 with ⟨rfl, hn⟩ | ⟨g, cap, cur, rfl, hg, hh, _⟩
  · exact ⟨none, 0, by rw [hn], fun i hi => by omega⟩
  · refine ⟨_, cap, rfl, fun i hi => ⟨g, 0, rfl, ?_, ?_⟩⟩
    · rcases Nat.lt_or_ge g w.heap.size with h | h
      · exact h
      · rw [Array.getElem?_eq_none h] at hh; cases hh
    · rw [Nat.zero_add, World.ownsRow.cellAt h i (by omega), bls_get l i hi]
theorem RowB.one {w : World} {base : Nat} {v : Value} {l : List Bool} (h : RowB w base v l) (hl : 1 ≤ l.length) : ∃ g cap, v = .slice (some ⟨g, 0, none⟩) l.length cap ∧ base ≤ g ∧ g < w.heap.size ∧ l.length ≤ cap ∧ cap ≤ maxLen ∧
    ∀ i, i < l.length → w.cell? ⟨g, i, none⟩ = some (.bool (l.getD i false)) := by
  rcases h.2 with ⟨_, h2⟩ | ⟨g, cap, cur, rfl, hg, hh, h3, h4, _⟩
  · omega
  · refine ⟨g, cap, rfl, hg, ?_, h3, h4, fun i hi => ?_⟩
    · rcases Nat.lt_or_ge g w.heap.size with h | h
      · exact h
      · rw [Array.getElem?_eq_none h] at hh; cases hh
    · rw [World.ownsRow.cellAt h i (by omega), bls_get l i hi]

section
variable {P : Program} {w : World}
/-- The append of a list that may be empty, and then nil, onto a row of the call's own. -/
theorem run_append_src (base : Nat) (t ty e : TypeId) (i : TypeInfo) (z : Value) (size bytes : Nat) (ht : P.underlying t = some (.slice e)) (hi : P.info? e = some i) (hz : i.zero = some z)
    (hsize : i.size = size) (hby : i.bytes = bytes) (hzs : z.cells.size = size) (hsz : 0 < size)
    (v : Value) (n : Nat) (xs : List Value) (hown : w.ownsRow base e size v n xs)
    (A : Option Addr) (m c : Nat) (f : Nat → Value) (hr : SrcAt w A m size f) (h1 : ∀ j, (f j).oneCell' = true)
    (h63 : n + m ≤ maxLen) (hbytes : (n + m) * bytes ≤ 140737488355328) (hbase : base ≤ w.heap.size) :
    ∃ v' w', (Builtin.append_ #[t, t] ty #[v, .slice A m c]).run P w = .ok v' w' ∧ w'.ownsRow base e size v' (n + m) (xs ++ (List.range (m * size)).map f) ∧ w.grownBy w' v.ownBlock := by
  rcases A with _ | ad
  · have hm : m = 0 := by
      rcases Nat.eq_zero_or_pos m with h | h
      · exact h
      · obtain ⟨b, o, e, _⟩ := hr h; cases e
    subst hm
    subst hsize
    refine ⟨v, w, ?_, by simpa using hown, World.grownBy.refl w _⟩
    rcases hown.2 with ⟨rfl, hn⟩ | ⟨g, cap, cur, rfl, _, _, h3, _⟩
    · subst hn
      simp [Builtin.append_, run_underlying ht, sizeOf, typeInfo, hi, Builtin.lenOf, Builtin.firstCells, storeCells]
    · simp [Builtin.append_, run_underlying ht, sizeOf, typeInfo, hi, Builtin.lenOf, Builtin.firstCells, storeCells, h3]
  · obtain ⟨v', w', k1, k2, k3, _⟩ := run_append_own_at (P := P) w base t ty e i z size bytes ht hi hz hsize hby hzs hsz v n xs hown ad m c ((List.range (m * size)).map f) (by simp) (fun j u hu => by
      have hj : j < m * size := by
        rcases Nat.lt_or_ge j (m * size) with h | h
        · exact h
        · rw [List.getElem?_eq_none (by simpa using h)] at hu; cases hu
      have h0 : 0 < m := by
        rcases Nat.eq_zero_or_pos m with h | h
        · rw [h] at hj; simp at hj
        · exact h
      obtain ⟨b, o, e, hb, hc⟩ := hr h0
      cases e
      rw [List.getElem?_map, List.getElem?_range hj] at hu
      obtain rfl := Option.some.inj hu
      have hadd : (⟨b, o, none⟩ : Addr).add j = ⟨b, o + j, none⟩ := by unfold Addr.add; split <;> simp_all
      rw [hadd]
      exact hc j hj) (fun u hu => by
        obtain ⟨j, _, rfl⟩ := List.mem_map.1 hu
        exact h1 j) h63 hbytes hbase
    exact ⟨v', w', k1, k2, k3⟩

theorem wpList_append_src {ops : Array Oper} {rest : List Oper} {o : Oper} {a : Act} {Q : Exit → Act → World → Prop} (hgd : o.guard = none) (s x : Operand) (t : TypeId)
    (ho : o.op = .call { callee := .builtin .append, args := #[s, x], argTypes := #[t, t] })
    (base : Nat) (e : TypeId) (i : TypeInfo) (z : Value) (size bytes : Nat) (ht : P.underlying t = some (.slice e)) (hi : P.info? e = some i) (hz : i.zero = some z)
    (hsize : i.size = size) (hby : i.bytes = bytes) (hzs : z.cells.size = size) (hsz : 0 < size)
    (v : Value) (n : Nat) (xs : List Value) (hs : a.eval s = v) (hown : w.ownsRow base e size v n xs)
    (A : Option Addr) (m c : Nat) (f : Nat → Value) (hx : a.eval x = .slice A m c) (hr : SrcAt w A m size f) (h1 : ∀ j, (f j).oneCell' = true)
    (h63 : n + m ≤ maxLen) (hbytes : (n + m) * bytes ≤ 140737488355328) (hbase : base ≤ w.heap.size)
    (h : ∀ v' w', w'.ownsRow base e size v' (n + m) (xs ++ (List.range (m * size)).map f) → w.grownBy w' v.ownBlock → wpList P ops Q rest (a.put o.dst v') w') :
    wpList P ops Q (o :: rest) a w := by
  refine wpList_plain hgd fun K hK => ?_
  obtain ⟨v', w', hr', h2, h3⟩ := run_append_src (P := P) (w := w) base t o.type e i z size bytes ht hi hz hsize hby hzs hsz v n xs hown A m c f hr h1 h63 hbytes hbase
  unfold Oper.wp execOp
  simp only [ho, resolve, invoke, builtin, Sem.run_bind, Sem.run_pure, Result.andThen_ok, List.map_toArray, List.map_cons, List.map_nil, hs, hx, hr']
  exact hK _ _ (h v' w' h2 h3)
end

/-- The value of a literal, if l are the values of the nodes. -/
def litL (l : List Bool) (x : Int) : Bool := l.getD (x / 2).toNat false != decide (x % 2 = 1)
def nodesL (V : Nat → Bool) (P Q : Nat → Int) (ni : Nat) : Nat → List Bool
  | 0 => false :: (List.range ni).map V
  | k + 1 => nodesL V P Q ni k ++ [litL (nodesL V P Q ni k) (P k) && litL (nodesL V P Q ni k) (Q k)]
theorem nodesL_succ (V : Nat → Bool) (P Q : Nat → Int) (ni k : Nat) : nodesL V P Q ni (k + 1) = nodesL V P Q ni k ++ [litL (nodesL V P Q ni k) (P k) && litL (nodesL V P Q ni k) (Q k)] := rfl
theorem nodesL_length (V : Nat → Bool) (P Q : Nat → Int) (ni : Nat) : ∀ k, (nodesL V P Q ni k).length = 1 + ni + k
  | 0 => by simp [nodesL]; omega
  | k + 1 => by rw [nodesL_succ, List.length_append, nodesL_length V P Q ni k]; simp; omega
def outsL (l : List Bool) (O : Nat → Int) (k : Nat) : List Bool := (List.range k).map fun i => litL l (O i)
theorem outsL_length (l : List Bool) (O : Nat → Int) (k : Nat) : (outsL l O k).length = k := by simp [outsL]
theorem outsL_succ (l : List Bool) (O : Nat → Int) (k : Nat) : outsL l O (k + 1) = outsL l O k ++ [litL l (O k)] := by simp [outsL, List.range_succ]

theorem litOk_nat {l : Int} {n : Nat} (h : litOk l n = true) : ∃ p : Nat, l = p ∧ p / 2 < n := by
  unfold litOk at h
  simp only [Bool.and_eq_true, decide_eq_true_eq] at h
  exact ⟨l.toNat, by omega, by omega⟩
theorem litL_nat (l : List Bool) (p : Nat) : litL l (p : Int) = (l.getD (p / 2) false != decide ((p : Int) % 2 = 1)) := by
  unfold litL
  rw [show ((p : Int) / 2).toNat = p / 2 by omega]

/-- What Run has to give. -/
def RunIs (N : Nat → ByteArray) (B P Q O : Nat → Int) (ni ng no : Nat) (V : Nat → Bool) (n : Nat) (L : List Bool) (err : Nat) : Prop :=
  (chkR N B P Q O ni ng no ≠ 0 ∧ L = [] ∧ err = chkR N B P Q O ni ng no) ∨
  (chkR N B P Q O ni ng no = 0 ∧ n ≠ ni ∧ L = [] ∧ err = 2) ∨
  (chkR N B P Q O ni ng no = 0 ∧ n = ni ∧ L = outsL (nodesL V P Q ni ng) O no ∧ err = 0)
theorem runIs_some (N : Nat → ByteArray) (B P Q O : Nat → Int) (ni ng no : Nat) (V : Nat → Bool) (n : Nat) : ∃ L err, RunIs N B P Q O ni ng no V n L err := by
  unfold RunIs
  by_cases h1 : chkR N B P Q O ni ng no = 0
  · by_cases h2 : n = ni
    · exact ⟨_, 0, .inr (.inr ⟨h1, h2, rfl, rfl⟩)⟩
    · exact ⟨[], 2, .inr (.inl ⟨h1, h2, rfl, rfl⟩)⟩
  · exact ⟨[], _, .inl ⟨h1, rfl, rfl⟩⟩
/-- A call hands back a list and an error. -/
def Ran (L : List Bool) (err : Nat) (w : World) (e : Ending) (w' : World) : Prop :=
  ∃ v, e = .returned (.tuple #[v, .int .i64 (err : Int)]) ∧ RowB w' w.heap.size v L ∧ Below w.heap.size w w'
theorem Ran.none {err : Nat} {w w' : World} (h : Below w.heap.size w w') : Ran [] err w (.returned (.tuple #[.slice none 0 0, .int .i64 (err : Int)])) w' :=
  ⟨_, rfl, World.ownsRow_nil _ _ _ _, h⟩

end Go.Proofs.Ytmbogdimjbhbmaa
