/- When Value gives a value; its parts then have values too. -/
import Derived.Test.YthogpmddijbigaaGreatDoorTermOpen
namespace Go.Proofs.YthogpmddijbigaaGreatDoor
open Go.RowKit
set_option linter.unusedVariables false

/-- Value gives a value. -/
def OkV (N : Nat → ByteArray) (D : Nat → Int) (X : Nat → Nat) (n : Nat) (A Bt : Nat → Nat) (mn : Nat) (t : Tm) : Prop := badE N D X n A Bt mn t = 0 ∧ ∀ s, metR t.nodes ⟨s.toArray⟩ = true → bndE N D n t s = 0
theorem OkV.valid {N : Nat → ByteArray} {D : Nat → Int} {X : Nat → Nat} {n : Nat} {A Bt : Nat → Nat} {mn : Nat} {t : Tm} (h : OkV N D X n A Bt mn t) : t.Valid := (checkR_zero t).1 (badE_zero h.1).1
theorem OkV.sub {N : Nat → ByteArray} {D : Nat → Int} {X : Nat → Nat} {n : Nat} {A Bt : Nat → Nat} {mn : Nat} {t u : Tm} (h : OkV N D X n A Bt mn t) (hu : u ∈ t.sub) : OkV N D X n A Bt mn u := by
  obtain ⟨c1, c2, c3⟩ := badE_zero h.1
  have hv := (checkR_zero t).1 c1
  refine ⟨?_, fun s hs => ?_⟩
  · unfold badE
    rw [if_neg (by rw [(checkR_zero u).2 (hv.sub hu)]; simp), if_neg (by rw [c2]; simp)]
    exact c3
  · obtain ⟨hm, hw⟩ := hv.met_sub hu hs
    have := h.2 s hm
    unfold bndE at this ⊢
    rw [hw] at this
    exact this
theorem value_any (t : Tm) (p : Option Addr) (nn cap : Nat) (pe : Option Addr) (n ce : Nat) (N : Nat → ByteArray) (D : Nat → Int) (X : Nat → Nat) (pm : Option Addr) (mn mc : Nat) (A Bt : Nat → Nat) (L : Nat → Nat → Nat → Nat) (w : World)
    (hdp : t.dp ≤ 9000) (hs : SubAt w w.heap.size (.slice p nn cap) t.sub) (hfit : t.fit) (hT : ShapesAt w) (hlong : t.long = false)
    (hn : n ≤ 1100) (hE : EnvAt w pe n N D X) (hN : ∀ i, i < n → (N i).size ≤ 200) (hX : ∀ i, i < n → X i < 18446744073709551616) (hmn : mn ≤ 4200) (hM : MemAt w pm mn A Bt) (hBt : ∀ i, i < mn → Bt i < 256) (hL : L = fun a b k => part (fun i => bytN A Bt mn (adr a b i)) k) :
    Calls Tryz.prog 9 #[.agg (Tm.cells t (.slice p nn cap)).toArray, .slice pe n ce, .slice pm mn mc] w fun e w' => Below w.heap.size w w' ∧
      ((OkV N D X n A Bt mn t ∧ e = .returned (.tuple #[.int .u64 (t.val (bndV N X n) L), .int .i64 0])) ∨ (¬ OkV N D X n A Bt mn t ∧ ∃ er : Int, er ≠ 0 ∧ e = .returned (.tuple #[.int .u64 0, .int .i64 er]))) := by
  by_cases hb : badE N D X n A Bt mn t = 0
  · refine (value_fine t p nn cap pe n ce N D X pm mn mc A Bt L w hdp hs hfit hT hlong hn hE hN hX hmn hM hBt hL hb).mono ?_
    rintro e w' ⟨hB, ss, hvn, (⟨h0, he⟩ | ⟨h1, he⟩)⟩
    · exact ⟨hB, .inl ⟨⟨hb, fun s hs => bndsE_zero h0 s ((hvn.2.2 s).2 hs)⟩, he⟩⟩
    · exact ⟨hB, .inr ⟨fun h => h1 (bndsE_all fun s hs => h.2 s ((hvn.2.2 s).1 hs)), _, h1, he⟩⟩
  · refine (value_bad t p nn cap pe n ce N D X pm mn mc A Bt w hdp hs hfit hT hlong hn hE hN hmn hM hb).mono ?_
    rintro e w' ⟨hB, he⟩
    exact ⟨hB, .inr ⟨fun h => hb h.1, _, hb, he⟩⟩
/-- A value is of its term's width, and the operation on the parts' values has no error. -/
theorem OkV.fine {N : Nat → ByteArray} {D : Nat → Int} {X : Nat → Nat} {n : Nat} {A Bt : Nat → Nat} {mn : Nat} {t : Tm} {L : Nat → Nat → Nat → Nat} (hBt : ∀ i, i < mn → Bt i < 256) (hL : L = fun a b k => part (fun i => bytN A Bt mn (adr a b i)) k)
    (h : OkV N D X n A Bt mn t) :
    t.val (bndV N X n) L < 2 ^ t.width.toNat ∧ errK t.kind t.width t.low (vAt (bndV N X n) L t.sub 0) (vAt (bndV N X n) L t.sub 1) (wdAt t.sub 0) (wdAt t.sub 1) = 0 := by
  obtain ⟨c1, c2, c3⟩ := badE_zero h.1
  have hall := (envR_zero c2).2
  refine Tm.Valid.fine (fun a b k => ?_) t.sz t (Nat.le_refl _) h.valid (fun u hu hk => ?_)
  · rw [hL]
    exact part_lt _ (fun i => bytN_lt A Bt mn _ hBt) k
  · have hw := h.valid.width hu hk
    have e : (⟨u.name.data.toList.toArray⟩ : ByteArray) = u.name := by simp
    obtain ⟨i, hi, hNi, hDi, hpl⟩ := bndE_zero hall (h.2 u.name.data.toList (by rw [e]; exact hw.1))
    rw [e] at hNi hDi hpl
    have hb := allTo_at _ n hall i hi
    unfold bndOk at hb
    simp only [Bool.and_eq_true] at hb
    have h2 := ((okW_iff _ _).1 hb.1.2).2
    unfold bndV
    rw [hpl, ← hw.2, ← hDi]
    exact h2
end Go.Proofs.YthogpmddijbigaaGreatDoor
