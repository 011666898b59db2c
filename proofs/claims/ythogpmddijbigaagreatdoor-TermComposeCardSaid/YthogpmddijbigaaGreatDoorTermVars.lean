/- Vars of package term: the variables' names, in order, with their widths. -/
import Derived.Test.YthogpmddijbigaaGreatDoorTermWidths
import Derived.Test.YthogpmddijbigaaGreatDoorTermIter
import Derived.Test.YthogpmddijbigaaGreatDoorTEnvMem
import Derived.Maps.OwnOps
import Derived.Maps.AppendAt
import Derived.Laws.OwnMore
import Derived.Deep.Onto
import Derived.Sort.KeysCollected
namespace Go.Proofs.YthogpmddijbigaaGreatDoor
open Go.RowKit Go.Sort Go.Shelf
set_option linter.unusedVariables false
set_option linter.unusedSimpArgs false

theorem binding_info : (Tryz.prog.info? 54).map (fun i => (i.zero, i.size, i.bytes)) = some (some (.agg #[.string ⟨#[]⟩, .int .i64 0, .int .u64 0]), 3, 32) := by kernel_rfl

def bindC (t : Tm) (s : List UInt8) : List Value := [encStr s, .int .i64 (lastW t.nodes ⟨s.toArray⟩), .int .u64 0]
def bindsC (t : Tm) (ss : List (List UInt8)) : List Value := ss.flatMap (bindC t)
theorem bindsC_length (t : Tm) (ss : List (List UInt8)) : (bindsC t ss).length = ss.length * 3 := by
  induction ss with
  | nil => rfl
  | cons s l ih => simp only [bindsC, List.flatMap_cons, List.length_append] at *; rw [ih]; simp [bindC]; omega
theorem bindsC_snoc (t : Tm) (ss : List (List UInt8)) (s : List UInt8) : bindsC t (ss ++ [s]) = bindsC t ss ++ bindC t s := by simp [bindsC]
/-- The names of a term's variables, in order. -/
def VarNames (t : Tm) (ss : List (List UInt8)) : Prop := ss.Nodup ∧ ss.Pairwise (fun a b => a ≤ b) ∧ ∀ x, x ∈ ss ↔ metR t.nodes ⟨x.toArray⟩ = true
theorem nameKey_list (x : List UInt8) : nameKey ⟨x.toArray⟩ = .string x := by simp [nameKey]

theorem names_of {H : Type} {t : Tm} {D : DataW H} {w : World} {b n : Nat} (hown : w.ownsMap Tryz.prog 9 (plainElem Tryz.prog 3) b n D) (hk : Knows t.nodes D) {ss : List (List UInt8)} (hp : ss.Perm (strKeys D)) :
    VarNames t (ss.mergeSort fun x y => decide (x ≤ y)) := by
  obtain ⟨es, hD, hpw, _⟩ := World.ownsMap.entries hown (Maps.string_keyed Tryz.underlying9)
  obtain ⟨es', hD', hko⟩ := hown.keysOf
  obtain rfl : es = es' := by rw [hD] at hD'; simpa using hD'
  subst hD
  have hstr : ∀ p ∈ es, ∃ x, p.1 = .string x := fun p hp => by
    obtain ⟨v, hv⟩ := hko p hp
    obtain ⟨x, _, hx, _⟩ := Maps.keyOf_str Tryz.underlying9 hv
    exact ⟨x, hx⟩
  have hnd : (strKeys (.map es)).Nodup := by
    show (es.map fun p => strOf p.1).Nodup
    refine List.pairwise_map.2 (hpw.imp_of_mem fun {p q} hp' hq' hne e => hne ?_)
    obtain ⟨a, ha⟩ := hstr p hp'
    obtain ⟨b, hb⟩ := hstr q hq'
    rw [ha, hb] at e ⊢
    exact congrArg _ e
  have hmem : ∀ x, x ∈ strKeys (.map es) ↔ Maps.has (.map es) (.string x) = true := fun x => by
    rw [Maps.has_eq, List.any_eq_true]
    show x ∈ es.map (fun p => strOf p.1) ↔ _
    rw [List.mem_map]
    constructor
    · rintro ⟨p, hp', rfl⟩
      obtain ⟨a, ha⟩ := hstr p hp'
      exact ⟨p, hp', by rw [ha]; simp [Lit.sameKey, strOf]⟩
    · rintro ⟨p, hp', hs⟩
      obtain ⟨a, ha⟩ := hstr p hp'
      rw [ha] at hs
      exact ⟨p, hp', by rw [ha]; simpa [Lit.sameKey, strOf] using hs⟩
  have hperm : (ss.mergeSort fun x y => decide (x ≤ y)).Perm (strKeys (.map es)) := (List.mergeSort_perm ss _).trans hp
  refine ⟨hperm.nodup_iff.2 hnd, ?_, fun x => ?_⟩
  · have h := List.pairwise_mergeSort (le := fun x y : List UInt8 => decide (x ≤ y)) (fun a b c h1 h2 => by simp only [decide_eq_true_eq] at *; exact List.le_trans h1 h2) (fun a b => by simp only [Bool.or_eq_true, decide_eq_true_eq]; exact List.le_total a b) ss
    exact h.imp fun h => by simpa using h
  · rw [hperm.mem_iff, hmem, ← nameKey_list, (hk.2 _).1]

/-- What a row of strings reads as. -/
theorem names_read {w : World} {base : Nat} {v : Value} {l : List (List UInt8)} {n : Nat} (hn : l.length = n) (h : w.ownsRow base 9 1 v n (l.map encStr)) :
    ∃ q c, v = .slice q n c ∧ ∀ i (hi : i < n), ∃ g, q = some ⟨g, 0, none⟩ ∧ g < w.heap.size ∧ w.cell? ⟨g, i, none⟩ = some (encStr (l.getD i [])) := by
  rcases h.2 with ⟨rfl, h0⟩ | ⟨g, cap, cur, rfl, hg, hh, _⟩
  · exact ⟨none, 0, by rw [h0], fun i hi => by omega⟩
  · refine ⟨_, cap, rfl, fun i hi => ⟨g, rfl, ?_, ?_⟩⟩
    · exact (Array.getElem?_eq_some_iff.1 hh).1
    · rw [World.ownsRow.cellAt h i (by omega), List.getElem?_map, List.getD_eq_getElem?_getD, List.getElem?_eq_getElem (by omega)]
      rfl
theorem row_down {w w' : World} {base : Nat} {e : TypeId} {size n : Nat} {v : Value} {xs : List Value} (h : w.ownsRow base e size v n xs) (hb : Below w.heap.size w w') : w'.ownsRow base e size v n xs := by
  obtain ⟨h1, h2⟩ := h
  refine ⟨h1, ?_⟩
  rcases h2 with h2 | ⟨g, cap, cur, hv, hg, hh, r⟩
  · exact Or.inl h2
  · refine Or.inr ⟨g, cap, cur, hv, hg, ?_, r⟩
    rw [hb.block g (Array.getElem?_eq_some_iff.1 hh).1]; exact hh
theorem three_new (w : World) (x y z : Value) (t : TypeId) : ∀ j u, [x, y, z][j]? = some u → (w.alloc (.cells #[x, y, z] t)).cell? ((⟨w.heap.size, 0, none⟩ : Addr).add j) = some u := fun j u h => by
  have hadd : (⟨w.heap.size, 0, none⟩ : Addr).add j = ⟨w.heap.size, j, none⟩ := by unfold Addr.add; split <;> simp_all
  rw [hadd]
  exact cell_of (i := j) (World.alloc_heap_new w _) (by rw [← h]; simp)

set_option maxRecDepth 100000 in
set_option maxHeartbeats 2000000 in
theorem vars_any (t : Tm) (p : Option Addr) (nn cap : Nat) (w : World) (hdp : t.dp ≤ 9000) (hs : SubAt w w.heap.size (.slice p nn cap) t.sub) (hfit : t.fit) (hT : ShapesAt w) (hlong : t.long = false) :
    Calls Tryz.prog 24 #[.agg (Tm.cells t (.slice p nn cap)).toArray] w fun e w' => Below w.heap.size w w' ∧
      ((checkR t ≠ 0 ∧ e = .returned (.tuple #[.slice none 0 0, .int .i64 (checkR t)])) ∨
       (checkR t = 0 ∧ ∃ ss v, VarNames t ss ∧ ss.length ≤ 400 ∧ e = .returned (.tuple #[v, .int .i64 0]) ∧ w'.ownsRow w.heap.size 54 3 v ss.length (bindsC t ss))) := by
  obtain ⟨W1, hW1⟩ : ∃ W1, W1 = w.alloc (.cells (Tm.cells t (.slice p nn cap)).toArray 25) := ⟨_, rfl⟩
  have hb1 : Below w.heap.size w W1 := by rw [hW1]; exact (Below.refl _ _).alloc (Nat.le_refl _) _
  have hsz1 : W1.heap.size = w.heap.size + 1 := by rw [hW1]; simp
  have HC := Lib.hid (widths_any (H := Unit) t p nn cap W1 hdp (hs.kept hb1 |>.up hb1.size) hfit (hT.below hb1) hlong)
  have HB := Lib.hid hb1
  have HZ := Lib.hid hsz1
  clear hb1 hs hT hsz1
  rw [hW1] at HB HC HZ
  simp only [Tm.cells] at HB HC HZ ⊢
  clear hW1 W1
  go_enter Tryz.func24, Tryz.ntmps24
  go_wp2_with (go_at_call 55; refine HC.out.mono ?_; rintro e w2 ⟨hb2, (⟨hne, rfl⟩ | ⟨h0, B, hB, rfl, D, hown, hkn⟩)⟩)
  · first
      | (go_ret2; exact ⟨HB.out.trans (hb2.mono (by have := HZ.out; omega)), .inl ⟨hne, rfl⟩⟩)
      | (trace_state; sorry)
  · have HK := Lib.hid hkn
    have HO := Lib.hid hown
    have H0 := Lib.hid h0
    have HB2 := Lib.hid hb2
    have hnb : checkR t = 0 := h0
    have hsmall : t.sz ≤ 400 := ((checkR_zero t).1 h0).1
    have hsd : Maps.size D ≤ 400 := Nat.le_trans (World.ownsMap.size_le hown) hsmall
    have HS := Lib.hid hsd
    have HCK := Lib.hid (fun W => (callsIn_wide (n := 5)).1 (Tryz.maps_Keys_59 (some B) W))
    have HCS := Lib.hid ((callsIn_wide (n := 5)).1 (Tryz.slices_Sorted_keys_58_59 B t.sz D _ w2 hown (by unfold maxLen; omega) (by omega)))
    have hw2 : w.heap.size + 1 ≤ w2.heap.size := by have := hb2.size; have := HZ.out; omega
    have HW2 := Lib.hid hw2
    clear hown hkn h0 hb2 hnb hsmall hsd hw2
    go_wp2_with first
      | (go_at_call 59; refine (HCK.out _).mono ?_; rintro e w' ⟨rfl, rfl⟩)
      | (go_at_call 58; refine HCS.out.mono ?_; rintro e w3 ⟨v0, s0, rfl, hperm, hrow, hnil, hb3⟩; obtain ⟨ks, hks⟩ : ∃ ks, ks = s0.mergeSort (fun x y => decide (x ≤ y)) := ⟨_, rfl⟩; obtain ⟨n, hn⟩ : ∃ n, n = s0.length := ⟨_, rfl⟩; rw [← hks, ← hn] at hrow; have HNL := Lib.hid (show ks.length = n by rw [hks, hn, List.length_mergeSort]); have HPM := Lib.hid hperm; have HKS := Lib.hid hks; have HB3 := Lib.hid hb3; have HNN := Lib.hid hn; clear hks hn hperm hnil hb3; obtain ⟨q, c, rfl, hcell⟩ := names_read HNL.out hrow; have HCE := Lib.hid hcell; clear hcell hrow)
    have hnmax : n ≤ 400 := by
      have h1 := HPM.out.length_eq
      have h2 : (strKeys D).length = Maps.size D := by
        obtain ⟨es, rfl⟩ := HK.out.1
        simp [strKeys, Maps.size]
      have := HS.out
      rw [HNN.out, h1, h2]; exact this
    have HNM := Lib.hid hnmax
    have HV : Hid (VarNames t ks) := Lib.hid (by rw [HKS.out]; exact names_of HO.out HK.out HPM.out)
    have HW3 : Hid (Below w2.heap.size w2 w3) := Lib.hid (((Below.refl _ w2).alloc (Nat.le_refl _) _).trans (HB3.out.mono (by simp)))
    have HO3 : Hid (w3.ownsMap Tryz.prog 9 (plainElem Tryz.prog 3) B t.sz D) := Lib.hid (own_below HO.out HW3.out)
    go_loopw [6, 21] (fun vv vi wr => ∃ k : Nat, vi = .int .i64 k ∧ k ≤ n ∧ wr.ownsRow w3.heap.size 54 3 vv k (bindsC t (ks.take k)) ∧ Below w3.heap.size w3 wr) (fun _ vi _ => n - (intOf vi).toNat)
    case atStart => exact ⟨0, rfl, by omega, World.ownsRow_nil _ _ _ _, Below.refl _ _⟩
    case round =>
      obtain ⟨k, rfl, hk, hrow, hb⟩ := hrel
      have HR := Lib.hid hrow
      have HBR := Lib.hid hb
      by_cases hlt : k < n
      · obtain ⟨g, rfl, hg, hc0⟩ := HCE.out k hlt
        have hc1 := (hb.cell (p := ⟨g, k, none⟩) hg).trans hc0
        obtain ⟨s, hs⟩ : ∃ s, s = ks.getD k [] := ⟨_, rfl⟩
        rw [← hs] at hc1
        have hmem : s ∈ ks := by rw [hs, List.getD_eq_getElem?_getD, List.getElem?_eq_getElem (by rw [HNL.out]; exact hlt)]; exact List.getElem_mem _
        have hsl : (⟨s.toArray⟩ : ByteArray).size ≤ maxLen := by
          have h1 : s ∈ strKeys D := HPM.out.mem_iff.1 (by have h2 := hmem; rw [HKS.out] at h2; exact (List.mergeSort_perm s0 _).mem_iff.1 h2)
          exact strKeys_le HO.out Tryz.underlying9 s h1
        have HSL := Lib.hid hsl
        have hat := (HK.out.2 ⟨s.toArray⟩).2
        have HAT := Lib.hid hat
        have HSS := Lib.hid hs
        obtain ⟨i0, hi0, hz0, hz1, hz2⟩ := info_parts binding_info
        have HI0 := Lib.hid hi0
        have HZ0 := Lib.hid hz0
        have HZ1 := Lib.hid hz1
        have HZ2 := Lib.hid hz2
        have HOR : Hid (wr.ownsMap Tryz.prog 9 (plainElem Tryz.prog 3) B t.sz D) := Lib.hid (own_below HO3.out hb)
        have HB3S := Lib.hid hb.size
        clear hrow hb hc0 hs hmem hsl hat hi0 hz0 hz1 hz2 hg
        go_wp2_with first
          | (at_lookup; refine wpList_lookup_own_int _ rfl _ _ 87 rfl 9 3 .i64 (Maps.string_keyed Tryz.underlying9) Tryz.underlying87 Tryz.underlying3 (Tryz.zeroValue3 _) B t.sz D rfl HOR.out _ (nameKey ⟨s.toArray⟩) rfl (Go.WideMaps.keyOf_string_mk Tryz.underlying9 HSL.out) ?_; rw [HAT.out]; intro c hc hwc; obtain rfl : lastW t.nodes ⟨s.toArray⟩ = c := by injection hc with hc; injection hc)
          | (at_builtin; refine wpList_append_own _ rfl _ _ 26 rfl w3.heap.size 54 i0 (.agg #[.string ⟨#[]⟩, .int .i64 0, .int .u64 0]) 3 32 Tryz.underlying26 HI0.out HZ0.out HZ1.out HZ2.out rfl (by decide) _ _ _ rfl (HR.out.alloc _) ⟨wr.heap.size, 0, none⟩ 1 1 [encStr s, .int .i64 (lastW t.nodes ⟨s.toArray⟩), .int .u64 0] rfl rfl (three_new _ _ _ _ _) (by intro u hu; simp at hu; rcases hu with rfl | rfl | rfl <;> rfl) (by have := HNM.out; unfold maxLen; omega) (by have := HNM.out; omega) (by have := HB3S.out; simp; omega) ?_; intro v' w1 hown' hgrow hnil')
        go_roundw
        case rel =>
          refine ⟨k + 1, by first | rfl | (rw [wrap64_small _ (by omega) (by omega)]; rfl), by omega, ?_, ?_⟩
          · have e : ks.take (k + 1) = ks.take k ++ [s] := by rw [List.take_add_one, HSS.out, List.getD_eq_getElem?_getD, List.getElem?_eq_getElem (by rw [HNL.out]; exact hlt)]; rfl
            rw [e, bindsC_snoc]
            exact hown'
          · exact (HBR.out.alloc HB3S.out _).grown hgrow (by have := HB3S.out; simp; omega) (fun r hr => (HR.out.lt r hr).1)
        case measure => have := HNM.out; (try rw [wrap64_small _ (by omega) (by omega)]); simp only [intOf]; omega
      · obtain rfl : k = n := by omega
        rw [List.take_of_length_le (by have := HNL.out; omega)] at hrow
        have HR2 := Lib.hid hrow
        clear hrow hb HR
        go_wp2
        go_ret2
        have h2 := HW2.out
        have h3 := HW3.out.size
        refine ⟨?_, .inr ⟨H0.out, ks, _, HV.out, by have := HNL.out; have := HNM.out; omega, rfl, ?_⟩⟩
        · exact HB.out.trans ((HB2.out.mono (by have := HZ.out; omega)).trans ((HW3.out.mono (by omega)).trans (HBR.out.mono (by omega))))
        · rw [HNL.out]
          exact HR2.out.mono (by omega)
end Go.Proofs.YthogpmddijbigaaGreatDoor
