/- What LexerBack adds up: mathematics. -/
import Derived.Test.YtejjbbgompddeaaDoorLexPrint
import Derived.Test.YtejjbbgompddeaaDoorLexSameRaw
namespace Go.Proofs.YtejjbbgompddeaaDoor
set_option linter.unusedVariables false
set_option linter.unusedSimpArgs false

theorem run_len : ∀ (f : Nat) (rest : List UInt8) (a : Nat) (acc : List (Tk × Nat)), acc.length ≤ 20000 → (run f rest a acc).1.length ≤ 20000
  | 0, rest, a, acc, h => h
  | f + 1, rest, a, acc, h => by
    rw [run_step]
    split
    · exact h
    · split
      · exact Nat.zero_le _
      · split
        · exact Nat.zero_le _
        · refine run_len f _ _ _ ?_
          rw [List.length_append]; simp; omega
theorem lexR_cap (l : List UInt8) : (lexR l).1.length ≤ 20000 := by
  unfold lexR
  split
  · exact Nat.zero_le _
  · exact run_len _ _ _ _ (Nat.zero_le _)
theorem rawTk_rawT (y : Tk × Nat) : rawTk (rawT y) = y.1 := by
  unfold rawTk rawT
  simp
theorem map_tk (M : List (Tk × Nat)) : (M.map rawT).map rawTk = M.map fun y => y.1 := by
  rw [List.map_map]
  exact List.map_congr_left fun y _ => rawTk_rawT y
theorem sameQ_of {L L' : List Raw} (h : L.map rawTk = L'.map rawTk) (hk : RawOk L) (hk' : RawOk L') : SameQ L L' := by
  refine ⟨by have := congrArg List.length h; simpa using this, fun i y y' hy hy' => ?_⟩
  have e := congrArg (fun l => l[i]?) h
  simp only [List.getElem?_map, hy, hy', Option.map_some, Option.some.injEq] at e
  have h1 := (hk y (List.mem_of_getElem? hy)).1
  have h2 := (hk' y' (List.mem_of_getElem? hy')).1
  unfold rawTk at e
  injection e with e1 e2 e3
  exact ⟨by omega, ba_eq e2, e3⟩
theorem wr_size (x : Tk) : x.t.length ≤ (wr x).length := by
  unfold wr
  split
  · simp; omega
  · exact Nat.le_refl _
theorem wrSum_mem {L : List Tk} {x : Tk} (h : x ∈ L) : (wr x).length ≤ wrSum L := by
  induction L with
  | nil => cases h
  | cons z L ih =>
    have e : wrSum (z :: L) = (wr z).length + wrSum L := rfl
    rcases List.mem_cons.1 h with rfl | h
    · omega
    · have := ih h; omega
theorem tokB_kind {x : Tk} (h : tokB x = true) : x.k ≤ 255 := by
  rw [tokB_iff] at h
  generalize (wr x).length = m at h
  generalize wr x = l at h
  cases l with
  | nil => cases h
  | cons c t =>
    simp only [nextT] at h
    repeat' split at h
    all_goals first | (cases h; done) | (cases h; simp)
/-- What a text's tokens are as values that Print takes. -/
theorem lex_raw {l : List UInt8} (h : (lexR l).2.2 = 0) : RawOk ((lexR l).1.map rawT) ∧ (∀ y ∈ (lexR l).1.map rawT, y.t.size ≤ 100000) ∧ (((lexR l).1.map rawT).all fun y => tokB (rawTk y)) = true := by
  obtain ⟨h1, h2⟩ := cov_lex h
  obtain ⟨h3, h4⟩ := cov_sum l _ 0 h2
  refine ⟨fun y hy => ?_, fun y hy => ?_, ?_⟩
  · obtain ⟨z, hz, rfl⟩ := List.mem_map.1 hy
    have := tokB_kind (h4 z hz)
    unfold rawT
    simp only
    omega
  · obtain ⟨z, hz, rfl⟩ := List.mem_map.1 hy
    have e1 := wrSum_mem (List.mem_map.2 ⟨z, hz, rfl⟩ : z.1 ∈ (lexR l).1.map fun y => y.1)
    have e2 := wr_size z.1
    have e3 : (rawT z).t.size = z.1.t.length := rfl
    omega
  · rw [List.all_eq_true]
    intro y hy
    obtain ⟨z, hz, rfl⟩ := List.mem_map.1 hy
    rw [rawTk_rawT]
    exact h4 z hz
/-- Print's answer to a text's tokens. -/
theorem lex_print {l : List UInt8} (h : (lexR l).2.2 = 0) : (printR ((lexR l).1.map rawT) = (⟨#[]⟩, 4) ∧ 65536 < l.length + (lexR l).1.length) ∨
    (∃ (u : ByteArray) (M : List (Tk × Nat)), printR ((lexR l).1.map rawT) = (u, 0) ∧ u.size ≤ 65536 ∧ lexR u.data.toList = (M, 0, 0) ∧ SameQ (M.map rawT) ((lexR l).1.map rawT) ∧ M.length ≤ 20000) := by
  obtain ⟨h1, h2, h3⟩ := lex_raw h
  have hlen := lexR_cap l
  obtain ⟨h4, h5⟩ := lex_toks h
  have hL : ¬ 20000 < ((lexR l).1.map rawT).length := by rw [List.length_map]; omega
  by_cases hb : 65536 < (prF true (((lexR l).1.map rawT).map rawTk)).length
  · left
    refine ⟨?_, ?_⟩
    · unfold printR; rw [if_neg hL, if_neg (by rw [h3]; decide), if_pos hb]
    · rw [map_tk] at hb; omega
  · right
    obtain ⟨M, hM, hlx⟩ := back_lex (L := (lexR l).1.map fun y => y.1) (fun x hx => by
      obtain ⟨z, hz, rfl⟩ := List.mem_map.1 hx
      exact h4 z hz) (by rw [List.length_map]; exact hlen) (by rw [map_tk] at hb; omega)
    have hMl : M.length ≤ 20000 := by
      have := congrArg List.length hM
      simp only [List.length_map] at this
      omega
    refine ⟨⟨(prF true (((lexR l).1.map rawT).map rawTk)).toArray⟩, M, ?_, ?_, ?_, ?_, hMl⟩
    · unfold printR; rw [if_neg hL, if_neg (by rw [h3]; decide), if_neg hb]
    · have e : (⟨(prF true (((lexR l).1.map rawT).map rawTk)).toArray⟩ : ByteArray).size = (prF true (((lexR l).1.map rawT).map rawTk)).length := by show Array.size _ = _; simp
      omega
    · rw [map_tk]; exact hlx
    · refine sameQ_of (by rw [map_tk, map_tk, hM]) (fun y hy => ?_) h1
      obtain ⟨z, hz, rfl⟩ := List.mem_map.1 hy
      have hz1 : z.1 ∈ (lexR l).1.map fun y => y.1 := by rw [← hM]; exact List.mem_map.2 ⟨z, hz, rfl⟩
      obtain ⟨z', hz', e⟩ := List.mem_map.1 hz1
      have := tokB_kind (h4 z' hz')
      unfold rawT
      simp only
      rw [← e]
      omega
/-- Print's answer to any tokens. -/
theorem any_print {L : List Raw} (hk : RawOk L) : (∃ E : Nat, printR L = (⟨#[]⟩, E) ∧ E ≠ 0 ∧ E ≤ 8) ∨
    (∃ (u : ByteArray) (M : List (Tk × Nat)), printR L = (u, 0) ∧ u.size ≤ 65536 ∧ lexR u.data.toList = (M, 0, 0) ∧ SameQ (M.map rawT) L ∧ M.length ≤ 20000) := by
  unfold printR
  by_cases hL : 20000 < L.length
  · rw [if_pos hL]; exact .inl ⟨4, rfl, by decide, by decide⟩
  rw [if_neg hL]
  by_cases ha : (L.all fun y => tokB (rawTk y)) = false
  · rw [if_pos ha]; exact .inl ⟨8, rfl, by decide, by decide⟩
  rw [if_neg ha]
  by_cases hb : 65536 < (prF true (L.map rawTk)).length
  · rw [if_pos hb]; exact .inl ⟨4, rfl, by decide, by decide⟩
  rw [if_neg hb]
  right
  have ha' : (L.all fun y => tokB (rawTk y)) = true := by simpa using ha
  rw [List.all_eq_true] at ha'
  obtain ⟨M, hM, hlx⟩ := back_lex (L := L.map rawTk) (fun x hx => by
    obtain ⟨z, hz, rfl⟩ := List.mem_map.1 hx
    exact ha' z hz) (by rw [List.length_map]; omega) (by omega)
  have hMl : M.length ≤ 20000 := by
    have := congrArg List.length hM
    simp only [List.length_map] at this
    omega
  refine ⟨⟨(prF true (L.map rawTk)).toArray⟩, M, rfl, ?_, hlx, ?_, hMl⟩
  · have e : (⟨(prF true (L.map rawTk)).toArray⟩ : ByteArray).size = (prF true (L.map rawTk)).length := by show Array.size _ = _; simp
    omega
  · refine sameQ_of (by rw [map_tk, hM]) (fun y hy => ?_) hk
    obtain ⟨z, hz, rfl⟩ := List.mem_map.1 hy
    have hz1 : z.1 ∈ L.map rawTk := by rw [← hM]; exact List.mem_map.2 ⟨z, hz, rfl⟩
    obtain ⟨z', hz', e⟩ := List.mem_map.1 hz1
    have := tokB_kind (ha' z' hz')
    unfold rawT
    simp only
    rw [← e]
    omega
theorem gr_mem {L : List Raw} {y : Raw} (h : y ∈ L) : min y.t.size 100000 ≤ grN L := by
  induction L with
  | nil => cases h
  | cons z L ih =>
    have e : grN (z :: L) = min z.t.size 100000 + grN L := by
      unfold grN
      rw [List.foldl_cons, gr_fold L]
      simp [grN]
    rcases List.mem_cons.1 h with rfl | h
    · omega
    · have := ih h; omega
theorem great_fit {L : List Raw} (h : greatR L = false) : L.length ≤ 20100 ∧ ∀ y ∈ L, y.t.size ≤ 100000 := by
  unfold greatR at h
  simp only [Bool.or_eq_false_iff, decide_eq_false_iff_not] at h
  refine ⟨by omega, fun y hy => ?_⟩
  have := gr_mem hy
  omega
end Go.Proofs.YtejjbbgompddeaaDoor
