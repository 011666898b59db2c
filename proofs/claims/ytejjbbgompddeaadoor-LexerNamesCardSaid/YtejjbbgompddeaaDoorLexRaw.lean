/- Tokens of any kind in memory (a law's argument): Great of the reference, copied of package lexer. -/
import Derived.Test.YtejjbbgompddeaaDoorLexLex
namespace Go.Proofs.YtejjbbgompddeaaDoor
open Go.RowKit Go.Instr
set_option linter.unusedVariables false
set_option linter.unusedSimpArgs false

/-- A value of type LexToken. -/
structure Raw where
  k : Int
  t : ByteArray
  n : Int
  p : Int
def rawC (y : Raw) : List Value := [.int .u8 y.k, .string y.t, .int .i64 y.n, .int .i64 y.p]
def rawRow (L : List Raw) : List Value := L.flatMap rawC
theorem rawRow_snoc (L : List Raw) (y : Raw) : rawRow (L ++ [y]) = rawRow L ++ rawC y := by simp [rawRow]
/-- A list of tokens in memory, from an offset on. -/
def RawAt (w : World) (A : Option Addr) (L : List Raw) : Prop := ∀ i y, L[i]? = some y → ∃ g o, A = some ⟨g, o, none⟩ ∧ g < w.heap.size ∧ w.cell? ⟨g, o + i * 4, none⟩ = some (.int .u8 y.k) ∧ w.cell? ⟨g, o + i * 4 + 1, none⟩ = some (.string y.t) ∧ w.cell? ⟨g, o + i * 4 + 2, none⟩ = some (.int .i64 y.n) ∧ w.cell? ⟨g, o + i * 4 + 3, none⟩ = some (.int .i64 y.p)
theorem RawAt.below {w w' : World} {A : Option Addr} {L : List Raw} (h : RawAt w A L) (hb : Below w.heap.size w w') : RawAt w' A L := by
  intro i y hy
  obtain ⟨g, o, e, hg, h0, h1, h2, h3⟩ := h i y hy
  exact ⟨g, o, e, Nat.lt_of_lt_of_le hg hb.size, by rw [hb.cell hg]; exact h0, by rw [hb.cell hg]; exact h1, by rw [hb.cell hg]; exact h2, by rw [hb.cell hg]; exact h3⟩
/-- What Great adds up. -/
def grN (L : List Raw) : Nat := L.foldl (fun n y => n + min y.t.size 100000) 0
theorem gr_fold : ∀ (L : List Raw) (n : Nat), L.foldl (fun n y => n + min y.t.size 100000) n = n + grN L
  | [], n => by simp [grN]
  | y :: L, n => by
    unfold grN
    rw [List.foldl_cons, List.foldl_cons, gr_fold L, gr_fold L (0 + _)]; omega
theorem grN_snoc {L : List Raw} {i : Nat} {y : Raw} (h : L[i]? = some y) : grN (L.take (i + 1)) = grN (L.take i) + min y.t.size 100000 := by
  rw [List.take_add_one, h]
  unfold grN
  rw [List.foldl_append]
  simp only [Option.toList_some, List.foldl_cons, List.foldl_nil]
theorem grN_le (L : List Raw) (i : Nat) : grN (L.take i) ≤ i * 100000 := by
  induction i with
  | zero => simp [grN]
  | succ i ih =>
    rcases Nat.lt_or_ge i L.length with h | h
    · rw [grN_snoc (List.getElem?_eq_getElem h)]; omega
    · rw [List.take_of_length_le (by omega)]; rw [List.take_of_length_le h] at ih; exact Nat.le_trans ih (Nat.mul_le_mul_right _ (Nat.le_succ i))
def greatR (L : List Raw) : Bool := decide (20100 < L.length) || decide (70000 < grN L)

end Go.Proofs.YtejjbbgompddeaaDoor
