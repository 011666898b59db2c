/- What the walk over the nodes of a term gathers: plain mathematics. -/
import Derived.Test.YthogpmddijbigaaGreatDoorTermFormedAll
import Derived.Test.YthogpmddijbigaaGreatDoorTermNodes
import Derived.Maps.OwnIn
namespace Go.Proofs.YthogpmddijbigaaGreatDoor
open Go.RowKit Go.Shelf
set_option linter.unusedVariables false

/-- The nodes, each before its parts. -/
def Tm.nodes (t : Tm) : List Tm := (t.pre 1).map (·.2)
mutual
theorem Tm.pre_snd (d e : Nat) : ∀ t : Tm, (t.pre d).map (·.2) = (t.pre e).map (·.2)
  | .mk k w b s lo l => by simp only [Tm.pre, List.map_cons]; rw [Tm.pres_snd (d + 1) (e + 1) l]
theorem Tm.pres_snd (d e : Nat) : ∀ l : List Tm, (Tm.pres d l).map (·.2) = (Tm.pres e l).map (·.2)
  | [] => by simp [Tm.pres]
  | t :: l => by simp only [Tm.pres, List.map_append]; rw [Tm.pre_snd d e t, Tm.pres_snd d e l]
end
theorem Tm.pres_map (d : Nat) (l : List Tm) : (Tm.pres d l).map (·.2) = l.flatMap Tm.nodes := by
  induction l with
  | nil => simp [Tm.pres_nil]
  | cons t l ih => rw [Tm.pres_cons, List.map_append, ih, List.flatMap_cons, Tm.pre_snd d 1 t]; rfl
theorem Tm.nodes_eq (t : Tm) : t.nodes = t :: t.sub.flatMap Tm.nodes := by
  unfold Tm.nodes
  rw [Tm.pre_eq, List.map_cons, Tm.pres_map]; rfl
theorem Tm.nodes_self (t : Tm) : t ∈ t.nodes := by rw [Tm.nodes_eq]; exact List.mem_cons_self
theorem Tm.nodes_sub {t u v : Tm} (hu : u ∈ t.sub) (hv : v ∈ u.nodes) : v ∈ t.nodes := by
  rw [Tm.nodes_eq]
  exact List.mem_cons_of_mem _ (List.mem_flatMap.2 ⟨u, hu, hv⟩)
theorem Tm.nodes_length (t : Tm) : t.nodes.length = t.sz := by unfold Tm.nodes; rw [List.length_map, Tm.pre_length]

mutual
theorem Tm.pre_depth (d : Nat) : ∀ (t : Tm) (x : Nat × Tm), x ∈ t.pre d → d ≤ x.1 ∧ x.1 < d + t.dp
  | .mk k w b s lo l, x, h => by
    simp only [Tm.pre, List.mem_cons] at h
    simp only [Tm.dp]
    rcases h with rfl | h
    · exact ⟨Nat.le_refl _, by simp only; omega⟩
    · have := Tm.pres_depth (d + 1) l x h; omega
theorem Tm.pres_depth (d : Nat) : ∀ (l : List Tm) (x : Nat × Tm), x ∈ Tm.pres d l → d ≤ x.1 ∧ x.1 < d + Tm.dps l
  | [], x, h => by simp [Tm.pres] at h
  | t :: l, x, h => by
    simp only [Tm.pres, List.mem_append] at h
    simp only [Tm.dps]
    rcases h with h | h
    · have := Tm.pre_depth d t x h; omega
    · have := Tm.pres_depth d l x h; omega
end
mutual
theorem Tm.pre_deepest (d : Nat) : ∀ t : Tm, ∃ x ∈ t.pre d, x.1 + 1 = d + t.dp
  | .mk k w b s lo l => by
    by_cases h : l = []
    · subst h
      exact ⟨_, by simp only [Tm.pre]; exact List.mem_cons_self, by simp [Tm.dp, Tm.dps]⟩
    · obtain ⟨x, hx, e⟩ := Tm.pres_deepest (d + 1) l h
      exact ⟨x, by simp only [Tm.pre]; exact List.mem_cons_of_mem _ hx, by simp only [Tm.dp]; omega⟩
theorem Tm.pres_deepest (d : Nat) : ∀ l : List Tm, l ≠ [] → ∃ x ∈ Tm.pres d l, x.1 + 1 = d + Tm.dps l
  | [], h => absurd rfl h
  | t :: l, _ => by
    obtain ⟨x, hx, e⟩ := Tm.pre_deepest d t
    by_cases h : l = []
    · subst h
      exact ⟨x, by simp only [Tm.pres, List.append_nil]; exact hx, by simp only [Tm.dps]; omega⟩
    · obtain ⟨y, hy, f⟩ := Tm.pres_deepest d l h
      rcases Nat.le_total t.dp (Tm.dps l) with hl | hl
      · exact ⟨y, by simp only [Tm.pres]; exact List.mem_append_right _ hy, by simp only [Tm.dps]; omega⟩
      · exact ⟨x, by simp only [Tm.pres]; exact List.mem_append_left _ hx, by simp only [Tm.dps]; omega⟩
end

theorem snoc_ind {α : Type} {P : List α → Prop} (h0 : P []) (hs : ∀ l a, P l → P (l ++ [a])) (l : List α) : P l := by
  rw [← List.reverse_reverse l]
  induction l.reverse with
  | nil => exact h0
  | cons a r ih => rw [List.reverse_cons]; exact hs _ _ ih
/-- The key of a name. -/
def nameKey (s : ByteArray) : Lit := .string s.data.toList
theorem nameKey_inj {a b : ByteArray} (h : nameKey a = nameKey b) : a = b := by
  unfold nameKey at h
  cases a; cases b
  simp only [Lit.string.injEq] at h
  congr 1
  exact Array.toList_inj.1 h
theorem isKey_name (s : ByteArray) : WideAt.IsKeyLit (nameKey s) := by simp [WideAt.IsKeyLit, nameKey]
def isVarOf (s : ByteArray) (t : Tm) : Bool := decide (t.kind = 2 ∧ t.name = s)
/-- Is the name met? The width that was last said of it. -/
def metR (l : List Tm) (s : ByteArray) : Bool := l.any (isVarOf s)
def lastW (l : List Tm) (s : ByteArray) : Int := l.foldl (fun w t => if isVarOf s t then t.width else w) 0
theorem metR_snoc (l : List Tm) (t : Tm) (s : ByteArray) : metR (l ++ [t]) s = (metR l s || isVarOf s t) := by simp [metR]
theorem lastW_snoc (l : List Tm) (t : Tm) (s : ByteArray) : lastW (l ++ [t]) s = if isVarOf s t then t.width else lastW l s := by simp [lastW]
theorem lastW_mem (l : List Tm) (s : ByteArray) : metR l s = true → ∃ t ∈ l, isVarOf s t = true ∧ lastW l s = t.width := by
  induction l using snoc_ind with
  | h0 => intro h; simp [metR] at h
  | hs l t ih =>
    intro h
    rw [lastW_snoc]
    by_cases hv : isVarOf s t = true
    · exact ⟨t, by simp, hv, by rw [if_pos hv]⟩
    · rw [metR_snoc] at h
      obtain ⟨u, hu, h1, h2⟩ := ih (by simpa [hv] using h)
      exact ⟨u, List.mem_append_left _ hu, h1, by rw [if_neg hv]; exact h2⟩
/-- The map holds just that. -/
def Knows {H : Type} (l : List Tm) (D : DataW H) : Prop := Maps.IsMap D ∧ ∀ s : ByteArray, Maps.has D (nameKey s) = metR l s ∧ D.atKey (nameKey s) (.lit (.int .i64 0)) = .lit (.int .i64 (lastW l s))
theorem Knows.none {H : Type} : Knows (H := H) [] (.map []) := ⟨⟨[], rfl⟩, fun s => ⟨rfl, rfl⟩⟩
theorem Knows.skip {H : Type} {l : List Tm} {D : DataW H} (h : Knows l D) {t : Tm} (ht : t.kind ≠ 2) : Knows (l ++ [t]) D := ⟨h.1, fun s => by
  have e : isVarOf s t = false := by simp [isVarOf, ht]
  rw [metR_snoc, lastW_snoc, e, Bool.or_false]
  exact h.2 s⟩
theorem Knows.put {H : Type} {l : List Tm} {D : DataW H} (h : Knows l D) {t : Tm} (ht : t.kind = 2) : Knows (l ++ [t]) (D.put (nameKey t.name) (.lit (.int .i64 t.width))) := ⟨h.1.put _ _, fun s => by
  rw [metR_snoc, lastW_snoc]
  by_cases hs : t.name = s
  · have e : isVarOf s t = true := by simp [isVarOf, ht, hs]
    rw [e, Bool.or_true, ← hs]
    exact ⟨Maps.has_put_same h.1 (isKey_name _) _, by rw [Maps.atKey_put_same h.1 (isKey_name _)]; simp⟩
  · have e : isVarOf s t = false := by simp [isVarOf, hs]
    have hne : nameKey s ≠ nameKey t.name := fun q => hs (nameKey_inj q).symm
    rw [e, Bool.or_false, Maps.has_put_other hne, Maps.atKey_put_other hne]
    exact h.2 s⟩
/-- Does a node say another width of its name than one before it? -/
def clashS (c : Bool × List Tm) (t : Tm) : Bool × List Tm := (c.1 || decide (t.kind = 2) && (metR c.2 t.name && lastW c.2 t.name != t.width), c.2 ++ [t])
def clashR (l : List Tm) : Bool := (l.foldl clashS (false, [])).1
theorem clash_snd (l : List Tm) : (l.foldl clashS (false, [])).2 = l := by
  induction l using snoc_ind with
  | h0 => rfl
  | hs l t ih => simp [clashS, ih]
theorem clashR_snoc (l : List Tm) (t : Tm) : clashR (l ++ [t]) = (clashR l || decide (t.kind = 2) && (metR l t.name && lastW l t.name != t.width)) := by
  unfold clashR
  rw [List.foldl_append, List.foldl_cons, List.foldl_nil]
  simp only [clashS]
  rw [clash_snd]
/-- No two nodes say different widths of a name. -/
def Agrees (l : List Tm) : Prop := ∀ t ∈ l, ∀ u ∈ l, t.kind = 2 → u.kind = 2 → t.name = u.name → t.width = u.width
theorem clashR_false (l : List Tm) : clashR l = false ↔ Agrees l := by
  induction l using snoc_ind with
  | h0 => exact ⟨fun _ t ht => (by cases ht), fun _ => rfl⟩
  | hs l t ih =>
    rw [clashR_snoc, Bool.or_eq_false_iff, ih]
    constructor
    · rintro ⟨ha, hb⟩
      have key : ∀ u ∈ l, u.kind = 2 → t.kind = 2 → u.name = t.name → u.width = t.width := by
        intro u hu k1 k2 e
        have hm : metR l t.name = true := List.any_eq_true.2 ⟨u, hu, by simp [isVarOf, k1, e]⟩
        obtain ⟨v, hv, h1, h2⟩ := lastW_mem l t.name hm
        simp only [isVarOf, decide_eq_true_eq] at h1
        rw [hm, k2, h2] at hb
        simp at hb
        rw [ha u hu v hv k1 h1.1 (by rw [e, h1.2]), hb]
      intro a ha' b hb' k1 k2 e
      rcases List.mem_append.1 ha' with h1 | h1 <;> rcases List.mem_append.1 hb' with h2 | h2
      · exact ha a h1 b h2 k1 k2 e
      · obtain rfl := List.mem_singleton.1 h2; exact key a h1 k1 k2 e
      · obtain rfl := List.mem_singleton.1 h1; exact (key b h2 k2 k1 e.symm).symm
      · obtain rfl := List.mem_singleton.1 h1; obtain rfl := List.mem_singleton.1 h2; rfl
    · intro h
      refine ⟨fun a ha b hb => h a (List.mem_append_left _ ha) b (List.mem_append_left _ hb), ?_⟩
      by_cases k : t.kind = 2
      · by_cases hm : metR l t.name = true
        · obtain ⟨v, hv, h1, h2⟩ := lastW_mem l t.name hm
          simp only [isVarOf, decide_eq_true_eq] at h1
          rw [hm, h2, h v (List.mem_append_left _ hv) t (by simp) h1.1 k h1.2]
          simp
        · simp [hm]
      · simp [k]

/-- What Check asks. -/
def Tm.Valid (t : Tm) : Prop := t.sz ≤ 400 ∧ t.dp ≤ 60 ∧ (∀ u ∈ t.nodes, formedR u = true) ∧ Agrees t.nodes
theorem Tm.Valid.sub {t u : Tm} (h : t.Valid) (hu : u ∈ t.sub) : u.Valid := by
  obtain ⟨h1, h2, h3, h4⟩ := h
  have a := Tm.sz_mem hu
  have b := Tm.dp_mem hu
  rw [Tm.sz_eq] at h1
  rw [Tm.dp_eq] at h2
  exact ⟨by omega, by omega, fun v hv => h3 v (Tm.nodes_sub hu hv), fun v hv w hw => h4 v (Tm.nodes_sub hu hv) w (Tm.nodes_sub hu hw)⟩
/-- The answer of Check. -/
noncomputable def checkR (t : Tm) : Nat := open Classical in if ¬(t.sz ≤ 400 ∧ t.dp ≤ 60) then 4 else if ¬(∀ u ∈ t.nodes, formedR u = true) then 8 else if ¬(Agrees t.nodes) then 14 else 0
theorem checkR_zero (t : Tm) : checkR t = 0 ↔ t.Valid := by
  unfold checkR Tm.Valid
  by_cases h1 : t.sz ≤ 400 ∧ t.dp ≤ 60
  · rw [if_neg (by simpa using h1)]
    by_cases h2 : ∀ u ∈ t.nodes, formedR u = true
    · rw [if_neg (fun q => q h2)]
      by_cases h3 : Agrees t.nodes
      · rw [if_neg (fun q => q h3)]; exact ⟨fun _ => ⟨h1.1, h1.2, h2, h3⟩, fun _ => rfl⟩
      · rw [if_pos h3]; exact ⟨fun q => (by cases q), fun q => absurd q.2.2.2 h3⟩
    · rw [if_pos h2]; exact ⟨fun q => (by cases q), fun q => absurd q.2.2.1 h2⟩
  · rw [if_pos h1]; exact ⟨fun q => (by cases q), fun q => absurd ⟨q.1, q.2.1⟩ h1⟩
/-- In a valid term every variable has one width, the same in each part. -/
theorem Tm.Valid.width {t v : Tm} (h : t.Valid) (hv : v ∈ t.nodes) (k : v.kind = 2) : metR t.nodes v.name = true ∧ lastW t.nodes v.name = v.width := by
  have hm : metR t.nodes v.name = true := List.any_eq_true.2 ⟨v, hv, by simp [isVarOf, k]⟩
  obtain ⟨u, hu, h1, h2⟩ := lastW_mem _ _ hm
  simp only [isVarOf, decide_eq_true_eq] at h1
  exact ⟨hm, by rw [h2]; exact h.2.2.2 u hu v hv h1.1 k h1.2⟩
theorem Tm.Valid.met_sub {t u : Tm} (h : t.Valid) (hu : u ∈ t.sub) {s : ByteArray} (hm : metR u.nodes s = true) : metR t.nodes s = true ∧ lastW t.nodes s = lastW u.nodes s := by
  obtain ⟨v, hv, h1, h2⟩ := lastW_mem _ _ hm
  simp only [isVarOf, decide_eq_true_eq] at h1
  obtain ⟨k, rfl⟩ := h1
  have := h.width (Tm.nodes_sub hu hv) k
  exact ⟨this.1, by rw [this.2, h2]⟩
end Go.Proofs.YthogpmddijbigaaGreatDoor
