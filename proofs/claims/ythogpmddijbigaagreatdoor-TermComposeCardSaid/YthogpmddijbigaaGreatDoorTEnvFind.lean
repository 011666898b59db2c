/- Where a binding is: the library's binary search at bindings, with the comparison of Value of package term (picked out of the texts of BlastRuns). -/
import Derived.Test.YthogpmddijbigaaGreatDoorTEnvMem
namespace Go.Proofs.YthogpmddijbigaaGreatDoor
open Go.RowKit Go.Sort
set_option linter.unusedVariables false
set_option linter.unusedSimpArgs false

theorem envMid (a b n : Nat) (h1 : a ≤ b) (h2 : b ≤ n) (hn : n ≤ 4200) : wrap64 (IntKind.u64.wrap (wrap64 ((a : Int) + (b : Int))) / 2) = (((a + b) / 2 : Nat) : Int) := by
  have e1 : wrap64 ((a : Int) + (b : Int)) = (a : Int) + b := wrap64_small _ (by omega) (by omega)
  have e2 : IntKind.u64.wrap ((a : Int) + b) = (a : Int) + b := by rw [IntKind.wrap_u64]; omega
  rw [e1, e2, wrap64_small _ (by omega) (by omega)]
  omega
theorem cmpS_form (a b : ByteArray) : cmpS a b = if ltS a b = true then -1 else if (a.toList == b.toList) = true then 0 else 1 := by
  have h := cmpB a.data.toList b.data.toList
  have e : ∀ x : ByteArray, x.data.toList = x.toList := fun x => by simp [ByteArray.toList_eq]
  unfold cmpS ltS
  rw [e, e] at h ⊢
  exact h
theorem cmpS_neg (a b : ByteArray) : decide (cmpS a b < 0) = ltS a b := by
  rw [cmpS_form]
  cases h : ltS a b
  · by_cases h2 : (a.toList == b.toList) = true <;> simp [h2]
  · simp
theorem cmpS_zero (a b : ByteArray) : cmpS a b = 0 ↔ a = b := by
  rw [cmpS_form]
  constructor
  · intro h
    split at h
    · cases h
    · split at h
      · rename_i h2; rw [strEq] at h2; simpa using h2
      · cases h
  · intro h
    subst h
    rw [if_neg (by unfold ltS; rw [less_irrefl]; simp), if_pos (by simp)]
theorem cmpS_beq (a b : ByteArray) : (cmpS a b == 0) = decide (cmpS a b = 0) := by rw [Bool.eq_iff_iff]; simp

theorem envcmp_any (a t : ByteArray) (d : Int) (x : Nat) (w : World) :
    Calls Tryz.prog 33 #[.agg #[.string a, .int .i64 d, .int .u64 (x : Nat)], .string t] w fun e w' => e = .returned (.int .i64 (cmpS a t)) ∧ Below w.heap.size w w' := by
  go_enter Tryz.func33, Tryz.ntmps33
  go_wp2_with (go_at_call 34; refine (compareS_any _ _ _).mono ?_; rintro e w' ⟨rfl, rfl⟩)
  go_ret
  exact ⟨rfl, (Below.refl _ _).alloc (Nat.le_refl _) _⟩

theorem envFind_any (p : Option Addr) (n cap : Nat) (N : Nat → ByteArray) (D : Nat → Int) (X : Nat → Nat) (t : ByteArray) (w : World) (hn : n ≤ 4200) (hm : EnvAt w p n N D X) (r : Nat) (hr : r = bs (fun i => decide (cmpS (N i) t < 0)) n 0 n) :
    Calls Tryz.prog 32 #[.slice p n cap, .string t, .func (.func 33) #[] #[]] w fun e w' =>
      e = .returned (.tuple #[.int .i64 r, .bool (decide (r < n) && decide (cmpS (N r) t = 0))]) ∧ Below w.heap.size w w' := by
  have HM := Lib.hid hm
  have HR := Lib.hid hr
  clear hm hr
  go_enter Tryz.func32, Tryz.ntmps32
  go_wp2
  go_loopw [9, 10] (fun i j wr => ∃ a b m : Nat, i = .int .i64 a ∧ j = .int .i64 b ∧ a ≤ b ∧ b ≤ n ∧ b - a ≤ m ∧ bs (fun i => decide (cmpS (N i) t < 0)) m a b = r ∧ Below w.heap.size w wr) (fun i j _ => (intOf j).toNat - (intOf i).toNat)
  case atStart => exact ⟨0, n, n, rfl, rfl, by omega, by omega, by omega, HR.out.symm, Below.refl _ _⟩
  case round =>
    obtain ⟨a, b, m, rfl, rfl, hab, hbn, hbm, hbs, hb⟩ := hrel
    have HB := Lib.hid hb
    have HS := Lib.hid hbs
    clear hb hbs
    by_cases hlt : a < b
    · obtain ⟨c, hc⟩ : ∃ c, c = (a + b) / 2 := ⟨_, rfl⟩
      have hmid : wrap64 (IntKind.u64.wrap (wrap64 ((a : Int) + (b : Int))) / 2) = (c : Int) := by rw [hc]; exact envMid a b n hab hbn hn
      have hcn : c < n := by omega
      obtain ⟨bk, o, hp, hk, c0, c1, c2⟩ := (HM.out.below HB.out) c hcn
      subst hp
      have HC := Lib.hid hc
      have HK := Lib.hid (And.intro hab (And.intro hbn (And.intro hbm hn)))
      clear hc hab hbn hbm hn hk
      by_cases hl : cmpS (N c) t < 0
      · have hneg : decide (cmpS (N c) t < 0) = true := decide_eq_true hl
        have HL := Lib.hid hl
        clear hl
        go_wp2_with (go_at_call 33; refine (envcmp_any (N c) t (D c) (X c) _).mono ?_; rintro e w1 ⟨rfl, hb1⟩)
        go_roundw
        case rel =>
          obtain ⟨hab, hbn, hbm, hn⟩ := HK.out
          have hc := HC.out
          refine ⟨c + 1, b, m - 1, by rw [wrap64_small _ (by omega) (by omega)]; rfl, rfl, by omega, by omega, by omega, ?_, HB.out.trans (hb1.mono HB.out.size)⟩
          rw [← HS.out]
          obtain ⟨m', rfl⟩ : ∃ m', m = m' + 1 := ⟨m - 1, by omega⟩
          rw [bs_up _ _ _ _ hlt (by rw [← hc]; simp [HL.out]), ← hc]
          rfl
        case measure => have hc := HC.out; obtain ⟨hab, hbn, hbm, hn⟩ := HK.out; rw [wrap64_small _ (by omega) (by omega)]; simp only [intOf]; omega
      · have hneg : decide (cmpS (N c) t < 0) = false := decide_eq_false hl
        have HL := Lib.hid hl
        clear hl
        go_wp2_with (go_at_call 33; refine (envcmp_any (N c) t (D c) (X c) _).mono ?_; rintro e w1 ⟨rfl, hb1⟩)
        go_roundw
        case rel =>
          obtain ⟨hab, hbn, hbm, hn⟩ := HK.out
          have hc := HC.out
          refine ⟨a, c, m - 1, rfl, rfl, by omega, by omega, by omega, ?_, HB.out.trans (hb1.mono HB.out.size)⟩
          rw [← HS.out]
          obtain ⟨m', rfl⟩ : ∃ m', m = m' + 1 := ⟨m - 1, by omega⟩
          rw [bs_down _ _ _ _ hlt (by rw [← hc]; simp [HL.out]), ← hc]
          rfl
        case measure => have hc := HC.out; obtain ⟨hab, hbn, hbm, hn⟩ := HK.out; simp only [intOf]; omega
    · have hbs2 := HS.out
      rw [bs_stop _ _ _ _ hlt] at hbs2
      subst hbs2
      by_cases hrn : a < n
      · obtain ⟨bk, o, hp, hk, c0, c1, c2⟩ := (HM.out.below HB.out) a hrn
        subst hp
        clear hk hab hbn hbm hn HS
        have HE := Lib.hid (cmpS_beq (N a) t)
        go_wp2_with (go_at_call 33; refine (envcmp_any (N a) t (D a) (X a) _).mono ?_; rintro e w1 ⟨rfl, hb1⟩)
        go_ret2
        exact ⟨by rw [HE.out]; simp [hrn], HB.out.trans (hb1.mono HB.out.size)⟩
      · have hrn2 : decide ((a : Int) < (n : Int)) = false := by simp; omega
        have HD := Lib.hid hrn
        clear hab hbn hbm hn HS hrn
        go_wp2
        go_ret2
        exact ⟨by simp [HD.out], HB.out⟩

theorem bs_spec (lt : Nat → Bool) (n : Nat) (hmono : ∀ i j, i ≤ j → j < n → lt j = true → lt i = true) : ∀ (m a b : Nat), a ≤ b → b ≤ n → b - a ≤ m → (∀ i, i < a → lt i = true) → (∀ i, b ≤ i → i < n → lt i = false) →
    bs lt m a b ≤ n ∧ (∀ i, i < bs lt m a b → lt i = true) ∧ ∀ i, bs lt m a b ≤ i → i < n → lt i = false
  | 0, a, b, h1, h2, h3, h4, h5 => by
    have e : a = b := by omega
    subst e
    exact ⟨h2, h4, h5⟩
  | m + 1, a, b, h1, h2, h3, h4, h5 => by
    by_cases h : a < b
    · cases hl : lt ((a + b) / 2)
      · rw [bs_down lt m a b h hl]
        refine bs_spec lt n hmono m a ((a + b) / 2) (by omega) (by omega) (by omega) h4 fun i hi hn => ?_
        cases hi2 : lt i
        · rfl
        · rw [hmono _ i hi hn hi2] at hl; cases hl
      · rw [bs_up lt m a b h hl]
        exact bs_spec lt n hmono m ((a + b) / 2 + 1) b (by omega) h2 (by omega) (fun i hi => hmono i _ (by omega) (by omega) hl) h5
    · rw [bs_stop lt (m + 1) a b h]
      have e : a = b := by omega
      subst e
      exact ⟨h2, h4, h5⟩

theorem env_sorted {N : Nat → ByteArray} {D : Nat → Int} {X : Nat → Nat} {n : Nat} (h : allTo (bndOk N D X) n = true) : ∀ j i, i < j → j < n → ltS (N i) (N j) = true := by
  intro j
  induction j with
  | zero => intro i hi; omega
  | succ j ih =>
    intro i hi hj
    have h1 := allTo_at _ n h (j + 1) hj
    unfold bndOk at h1
    simp only [Bool.and_eq_true] at h1
    have h2 : ltS (N j) (N (j + 1)) = true := by simpa using h1.2
    by_cases e : i = j
    · rw [e]; exact h2
    · exact less_trans _ _ _ (ih i (by omega) (by omega)) h2
theorem ltS_irrefl (a : ByteArray) : ltS a a = false := less_irrefl _

/-- The search's place. -/
def placeE (N : Nat → ByteArray) (t : ByteArray) (n : Nat) : Nat := bs (fun i => decide (cmpS (N i) t < 0)) n 0 n
theorem place_spec {N : Nat → ByteArray} {D : Nat → Int} {X : Nat → Nat} {n : Nat} (h : allTo (bndOk N D X) n = true) (t : ByteArray) :
    placeE N t n ≤ n ∧ (∀ i, i < placeE N t n → ltS (N i) t = true) ∧ ∀ i, placeE N t n ≤ i → i < n → ltS (N i) t = false := by
  have e : (fun i => decide (cmpS (N i) t < 0)) = fun i => ltS (N i) t := funext fun i => cmpS_neg _ _
  unfold placeE
  rw [e]
  refine bs_spec _ n (fun i j hij hj hl => ?_) n 0 n (by omega) (by omega) (by omega) (fun i hi => by omega) (fun i h1 h2 => by omega)
  by_cases e : i = j
  · rw [e]; exact hl
  · exact less_trans _ _ _ (env_sorted h j i (by omega) hj) hl
theorem place_yes {N : Nat → ByteArray} {D : Nat → Int} {X : Nat → Nat} {n : Nat} (h : allTo (bndOk N D X) n = true) (i : Nat) (hi : i < n) : placeE N (N i) n = i := by
  obtain ⟨h1, h2, h3⟩ := place_spec h (N i)
  rcases Nat.lt_trichotomy (placeE N (N i) n) i with k | k | k
  · have e1 := h3 _ (Nat.le_refl _) (by omega)
    rw [env_sorted h i _ k hi] at e1; cases e1
  · exact k
  · have e1 := h2 i k
    rw [ltS_irrefl] at e1; cases e1
theorem env_notIn {N : Nat → ByteArray} {D : Nat → Int} {X : Nat → Nat} {n : Nat} (h : allTo (bndOk N D X) n = true) (i : Nat) (hi : i < n) : NotIn N (N i) i := fun j hj e => by
  have h1 := env_sorted h i j hj hi
  rw [e, ltS_irrefl] at h1; cases h1

theorem envFind_yes (p : Option Addr) (n cap : Nat) (N : Nat → ByteArray) (D : Nat → Int) (X : Nat → Nat) (w : World) (hn : n ≤ 4200) (hm : EnvAt w p n N D X) (h : allTo (bndOk N D X) n = true) (i : Nat) (hi : i < n) :
    Calls Tryz.prog 32 #[.slice p n cap, .string (N i), .func (.func 33) #[] #[]] w fun e w' =>
      e = .returned (.tuple #[.int .i64 i, .bool true]) ∧ Below w.heap.size w w' := by
  have h1 := envFind_any p n cap N D X (N i) w hn hm i (by rw [← place_yes h i hi]; exact congrArg (fun t => placeE N t n) (by rw [place_yes h i hi]))
  rw [decide_eq_true hi, decide_eq_true ((cmpS_zero _ _).2 rfl)] at h1
  exact h1
theorem envFind_no (p : Option Addr) (n cap : Nat) (N : Nat → ByteArray) (D : Nat → Int) (X : Nat → Nat) (t : ByteArray) (w : World) (hn : n ≤ 4200) (hm : EnvAt w p n N D X) (h : NotIn N t n) :
    Calls Tryz.prog 32 #[.slice p n cap, .string t, .func (.func 33) #[] #[]] w fun e w' =>
      (∃ r : Nat, e = .returned (.tuple #[.int .i64 r, .bool false])) ∧ Below w.heap.size w w' := by
  refine (envFind_any p n cap N D X t w hn hm (placeE N t n) rfl).mono ?_
  rintro e w' ⟨he, hb⟩
  refine ⟨⟨placeE N t n, ?_⟩, hb⟩
  rw [he]
  by_cases hr : placeE N t n < n
  · rw [show decide (cmpS (N (placeE N t n)) t = 0) = false from decide_eq_false fun e => h _ hr ((cmpS_zero _ _).1 e), Bool.and_false]
  · rw [show decide (placeE N t n < n) = false from decide_eq_false hr, Bool.false_and]
theorem envR_zero {N : Nat → ByteArray} {D : Nat → Int} {X : Nat → Nat} {n : Nat} (h : envR N D X n = 0) : n ≤ 1000 ∧ allTo (bndOk N D X) n = true := by
  unfold envR at h
  split at h
  · cases h
  · split at h
    · rename_i h1 h2; exact ⟨by omega, h2⟩
    · cases h
theorem bnd_width {N : Nat → ByteArray} {D : Nat → Int} {X : Nat → Nat} {n e : Nat} (h : allTo (bndOk N D X) n = true) (he : e < n) : 1 ≤ D e ∧ D e ≤ 64 := by
  have h1 := allTo_at _ n h e he
  unfold bndOk okW at h1
  simp only [Bool.and_eq_true] at h1
  have h2 := h1.1.2
  split at h2
  · assumption
  · cases h2
def longB (N : Nat → ByteArray) (i : Nat) : Bool := !decide (200 < (N i).size)
def greatB (N : Nat → ByteArray) (n : Nat) : Bool := if 1100 < n then true else !allTo (longB N) n
theorem greatB_no {N : Nat → ByteArray} {n : Nat} (h : greatB N n = false) : n ≤ 1100 ∧ ∀ i, i < n → (N i).size ≤ 200 := by
  unfold greatB at h
  split at h
  · cases h
  · rename_i hn
    have h2 : allTo (longB N) n = true := by simpa using h
    refine ⟨by omega, fun i hi => ?_⟩
    have := allTo_at _ n h2 i hi
    unfold longB at this
    simpa using this
set_option maxRecDepth 100000 in
theorem greatBound_any (p : Option Addr) (n cap : Nat) (N : Nat → ByteArray) (D : Nat → Int) (X : Nat → Nat) (w : World) (hm : EnvAt w p n N D X) :
    Calls Tryz.prog 8 #[.slice p n cap, .slice none 0 0] w fun e w' => e = .returned (.bool (greatB N n)) ∧ w = w' := by
  have HM := Lib.hid hm
  clear hm
  by_cases hmany : 1100 < n
  · rw [show greatB N n = true from if_pos hmany]
    have d : decide ((1100 : Int) < (n : Int)) = true := decide_eq_true (by omega)
    clear hmany
    go_enter Tryz.func8, Tryz.ntmps8
    go_wp2
    go_ret
    exact ⟨rfl, rfl⟩
  · have d : decide ((1100 : Int) < (n : Int)) = false := decide_eq_false (by omega)
    have HG := Lib.hid (show greatB N n = !allTo (longB N) n from if_neg hmany)
    go_enter Tryz.func8, Tryz.ntmps8
    go_wp2
    go_loop [5] (fun vi => ∃ k : Nat, vi = .int .i64 k ∧ k ≤ n ∧ allTo (longB N) k = true) (fun vi => n - (intOf vi).toNat)
    case atStart => exact ⟨0, rfl, by omega, rfl⟩
    case round =>
      obtain ⟨k, rfl, hk, hl⟩ := hrel
      have HL := Lib.hid hl
      clear hl
      by_cases hlt : k < n
      · obtain ⟨b, o, hp, hbn, a0, a1, a2⟩ := HM.out k (by omega)
        subst hp
        have hj0 : (0 : Int) ≤ (k : Int) := Int.natCast_nonneg _
        have hj1 : (k : Int) < (n : Int) := by omega
        obtain ⟨L, hL⟩ : ∃ L, (N k).size = L := ⟨_, rfl⟩
        have HQ := Lib.hid (show longB N k = !decide (200 < L) by unfold longB; rw [hL])
        by_cases h2 : 200 < L
        · have d2 : decide ((200 : Int) < (L : Int)) = true := decide_eq_true (by omega)
          have HZ := Lib.hid h2
          clear h2
          go_wp2
          go_ret
          exact ⟨by rw [HG.out, allTo_no _ k (by rw [HQ.out, decide_eq_true HZ.out]; rfl) n hlt]; rfl, rfl⟩
        · have d2 : decide ((200 : Int) < (L : Int)) = false := decide_eq_false (by omega)
          have HZ := Lib.hid h2
          clear h2
          go_wp2
          go_round
          case rel => exact ⟨k + 1, by first | rfl | go_num | (rw [wrap64_small _ (by omega) (by omega)]; rfl), by omega, by rw [allTo_succ, HL.out, HQ.out, decide_eq_false HZ.out]; rfl⟩
          case measure => (try rw [wrap64_small _ (by omega) (by omega)]); simp only [intOf]; omega
      · obtain rfl : k = n := by omega
        go_wp2
        go_ret
        exact ⟨by rw [HG.out, HL.out]; rfl, rfl⟩
end Go.Proofs.YthogpmddijbigaaGreatDoor
