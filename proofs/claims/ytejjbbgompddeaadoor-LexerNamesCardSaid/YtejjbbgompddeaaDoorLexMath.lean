/- Tokens as plain mathematics: bytes, words, numbers, the tokens of a text. -/
import GoSem.Core.Code
namespace Go.Proofs.YtejjbbgompddeaaDoor
set_option linter.unusedVariables false

/-- The classes of bytes, in the program's numbers. -/
def markN (c : Nat) : Bool := c == 40 || c == 41 || c == 42 || c == 43 || c == 44 || c == 46 || c == 47 || c == 58 || c == 61 || c == 64 || c == 91 || c == 93 || c == 123 || c == 125
def digN (c : Nat) : Bool := decide (48 ≤ c) && decide (c ≤ 57)
def letN (c : Nat) : Bool := (decide (97 ≤ c) && decide (c ≤ 122)) || (decide (65 ≤ c) && decide (c ≤ 90))
def cls (c : Nat) : Nat :=
  if c = 10 then 9 else if c = 32 then 1 else if c = 34 then 7 else if c = 35 then 2 else if c = 45 then 6 else if c = 95 then 5
  else if markN c then 8 else if digN c then 4 else if letN c then 3 else 0
def isW (c : UInt8) : Bool := cls c.toNat == 3 || cls c.toNat == 4 || cls c.toNat == 5
def prn (c : UInt8) : Bool := decide (32 ≤ c.toNat) && decide (c.toNat ≤ 126)

/-- How many bytes spaces and a remark take at the beginning. -/
def skipN : List UInt8 → Nat
  | [] => 0
  | c :: t => if c = 32 then skipN t + 1 else if c = 35 then (t.takeWhile (fun b => b != 10)).length + 1 else 0

def decOk (d : List UInt8) : Bool := decide (1 ≤ d.length) && decide (d.length ≤ 18) && (decide (d.length ≤ 1) || d.headD 0 != 48) && d.all (fun c => digN c.toNat)
def decV (d : List UInt8) : Nat := d.foldl (fun n c => 10 * n + (c.toNat - 48)) 0
def hexN (c : Nat) : Bool := digN c || (decide (97 ≤ c) && decide (c ≤ 102))
def hexD1 (c : Nat) : Nat := if digN c then c - 48 else c - 87
def hexOk (d : List UInt8) : Bool := decide (1 ≤ d.length) && decide (d.length ≤ 15) && (decide (d.length ≤ 1) || d.headD 0 != 48) && d.all (fun c => hexN c.toNat)
def hexV (d : List UInt8) : Nat := d.foldl (fun n c => 16 * n + hexD1 c.toNat) 0
/-- The value of a number. -/
def numV (s : List UInt8) : Option Int :=
  if s.take 2 = [48, 120] then (if hexOk (s.drop 2) then some (hexV (s.drop 2) : Nat) else none)
  else if s.headD 0 = 45 then (if decOk (s.drop 1) && (s.drop 1).headD 0 != 48 then some (-((decV (s.drop 1) : Nat) : Int)) else none)
  else if decOk s then some (decV s : Nat) else none

/-- A token without its place. -/
structure Tk where
  k : Nat
  t : List UInt8
  n : Int
deriving DecidableEq

def nameB (x : List UInt8) : Bool := decide (1 ≤ x.length) && decide (x.length ≤ 24) && letN (x.headD 0).toNat && x.all isW
def wordB (c : UInt8) (t : List UInt8) : List UInt8 := c :: t.takeWhile isW
def textB3 (t : List UInt8) : List UInt8 := t.takeWhile (fun b => b != 34)
/-- The token at the beginning, and how many bytes it takes. -/
def nextT : List UInt8 → Option (Tk × Nat)
  | [] => none
  | c :: t =>
    if cls c.toNat = 9 then some (⟨5, [c], 0⟩, 1)
    else if cls c.toNat = 8 then some (⟨4, [c], 0⟩, 1)
    else if cls c.toNat = 7 then
      (if decide ((textB3 t).length < t.length) && (textB3 t).all prn then some (⟨3, textB3 t, 0⟩, (textB3 t).length + 2) else none)
    else if cls c.toNat = 3 then (if nameB (wordB c t) then some (⟨1, wordB c t, 0⟩, (wordB c t).length) else none)
    else if cls c.toNat = 4 ∨ cls c.toNat = 6 then (match numV (wordB c t) with | some n => some (⟨2, wordB c t, n⟩, (wordB c t).length) | none => none)
    else none

/-- The tokens of a text, from a place on. -/
def run : Nat → List UInt8 → Nat → List (Tk × Nat) → List (Tk × Nat) × Nat × Nat
  | 0, _, _, acc => (acc, 0, 0)
  | f + 1, rest, at', acc =>
    if (rest.drop (skipN rest)) = [] then (acc, 0, 0)
    else match nextT (rest.drop (skipN rest)) with
      | none => ([], at' + skipN rest, 12)
      | some (x, n) => if 20000 ≤ acc.length then ([], at' + skipN rest, 4) else run f ((rest.drop (skipN rest)).drop n) (at' + skipN rest + n) (acc ++ [(x, at' + skipN rest)])
def lexR (bs : List UInt8) : List (Tk × Nat) × Nat × Nat := if 65536 < bs.length then ([], 0, 4) else run (bs.length + 1) bs 0 []

/-- How a token is written. -/
def wr (x : Tk) : List UInt8 := if x.k = 3 then 34 :: (x.t ++ [34]) else x.t

theorem skipN_le : ∀ l : List UInt8, skipN l ≤ l.length
  | [] => Nat.le_refl _
  | c :: t => by
    have h := skipN_le t
    have h2 := (List.takeWhile_sublist (p := fun b : UInt8 => b != 10) (l := t)).length_le
    unfold skipN
    split
    · simp; omega
    · split <;> simp; omega
theorem takeWhile_le (p : UInt8 → Bool) (l : List UInt8) : (l.takeWhile p).length ≤ l.length := (List.takeWhile_sublist (p := p) (l := l)).length_le
theorem nextT_le {l : List UInt8} {x : Tk} {n : Nat} (h : nextT l = some (x, n)) : 1 ≤ n ∧ n ≤ l.length ∧ (wr x).length = n ∧ l.take n = wr x := by
  cases l with
  | nil => cases h
  | cons c t =>
    simp only [nextT] at h
    by_cases h9 : cls c.toNat = 9
    · rw [if_pos h9] at h; cases h; refine ⟨by simp, by simp, by simp [wr], by simp [wr]⟩
    rw [if_neg h9] at h
    by_cases h8 : cls c.toNat = 8
    · rw [if_pos h8] at h; cases h; refine ⟨by simp, by simp, by simp [wr], by simp [wr]⟩
    rw [if_neg h8] at h
    by_cases h7 : cls c.toNat = 7
    · rw [if_pos h7] at h
      by_cases hq : (decide ((textB3 t).length < t.length) && (textB3 t).all prn) = true
      · rw [if_pos hq] at h
        cases h
        simp only [Bool.and_eq_true, decide_eq_true_eq] at hq
        have hc : c = 34 := by
          have : c.toNat = 34 := by
            revert h7; unfold cls; repeat' split
            all_goals first | (intro h; omega) | (intro h; contradiction)
          exact UInt8.toNat_inj.1 this
        subst hc
        refine ⟨by omega, by simp; omega, by simp [wr], ?_⟩
        have hd : t = textB3 t ++ t.drop (textB3 t).length := by
          conv => lhs; rw [← List.takeWhile_append_dropWhile (p := fun b : UInt8 => b != 34) (l := t)]
          have : t.drop (textB3 t).length = t.dropWhile (fun b => b != 34) := by
            conv => lhs; arg 2; rw [← List.takeWhile_append_dropWhile (p := fun b : UInt8 => b != 34) (l := t)]
            exact List.drop_left
          rw [this]; rfl
        have hh : t.dropWhile (fun b : UInt8 => b != 34) ≠ [] := by
          intro he
          have := congrArg List.length (List.takeWhile_append_dropWhile (p := fun b : UInt8 => b != 34) (l := t))
          rw [he] at this
          unfold textB3 at hq
          simp at this
          omega
        obtain ⟨y, ys, hy⟩ := List.exists_cons_of_ne_nil hh
        have hy34 : y = 34 := by
          have := List.head?_dropWhile_not (fun b : UInt8 => b != 34) t
          rw [hy] at this
          simpa using this
        subst hy34
        have ht : t = textB3 t ++ 34 :: ys := by
          rw [← hy]; exact (List.takeWhile_append_dropWhile (p := fun b : UInt8 => b != 34) (l := t)).symm
        show (34 :: t).take ((textB3 t).length + 2) = 34 :: (textB3 t ++ [34])
        rw [List.take_succ_cons]
        congr 1
        generalize textB3 t = u at ht
        subst ht
        rw [show u ++ 34 :: ys = (u ++ [34]) ++ ys by simp]
        exact List.take_left' (by simp)
      · rw [if_neg hq] at h; cases h
    rw [if_neg h7] at h
    have hw : ∀ u : List UInt8, 1 ≤ (wordB c u).length ∧ (wordB c u).length ≤ (c :: u).length ∧ (c :: u).take (wordB c u).length = wordB c u := by
      intro u
      have := takeWhile_le isW u
      refine ⟨by simp [wordB], by simp [wordB]; omega, ?_⟩
      show (c :: u).take ((u.takeWhile isW).length + 1) = c :: u.takeWhile isW
      rw [List.take_succ_cons]
      congr 1
      conv => lhs; arg 2; rw [← List.takeWhile_append_dropWhile (p := isW) (l := u)]
      exact List.take_left
    by_cases h3 : cls c.toNat = 3
    · rw [if_pos h3] at h
      by_cases hq : nameB (wordB c t) = true
      · rw [if_pos hq] at h; cases h
        exact ⟨(hw t).1, (hw t).2.1, by simp [wr], by simp [wr]; exact (hw t).2.2⟩
      · rw [if_neg hq] at h; cases h
    rw [if_neg h3] at h
    by_cases h46 : cls c.toNat = 4 ∨ cls c.toNat = 6
    · rw [if_pos h46] at h
      cases hv : numV (wordB c t) with
      | none => rw [hv] at h; cases h
      | some m => rw [hv] at h; cases h; exact ⟨(hw t).1, (hw t).2.1, by simp [wr], by simp [wr]; exact (hw t).2.2⟩
    · rw [if_neg h46] at h; cases h
end Go.Proofs.YtejjbbgompddeaaDoor
