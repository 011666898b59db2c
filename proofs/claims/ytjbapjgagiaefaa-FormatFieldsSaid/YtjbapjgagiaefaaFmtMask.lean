/- The contract of package format's Mask, Check. -/
import Derived.Test.YtjbapjgagiaefaaFmtSpan
import Derived.Test.YtjbapjgagiaefaaFmtOpen
import Derived.Lib.QuietBelow
import Derived.Laws.CopyOwn
import Derived.Laws.Tables
import Derived.Test.YtjbapjgagiaefaaRoundRegion
import Derived.IntWalk
namespace Go.Proofs.Ytjbapjgagiaefaa
open Go.RowKit Go.Instr Go.Sort
set_option linter.unusedVariables false
set_option linter.unusedSimpArgs false
set_option maxRecDepth 100000
set_option maxHeartbeats 4000000

/-- A piece lies in a word of the size. -/
def pcOk (size : Int) (x : MPiece) : Bool := inB x.len 1 size && inB x.pos 0 (size - x.len)
/-- The bits of a piece. -/
def pcM (x : MPiece) : Nat := mk x.len.toNat * 2 ^ x.pos.toNat
def maskGo (size : Int) : Nat → List MPiece → Nat × Int
  | m, [] => (m, 0)
  | m, x :: L => if pcOk size x = true then (if m &&& pcM x = 0 then maskGo size (m ||| pcM x) L else (0, 8)) else (0, 8)
/-- What Mask gives. -/
def maskR (size : Int) (L : List MPiece) : Nat × Int := if 1 ≤ size ∧ size ≤ 64 then (if L.length ≤ 4 then maskGo size 0 L else (0, 4)) else (0, 2)
theorem pcM_lt {size : Int} {x : MPiece} (hs : size ≤ 64) (h : pcOk size x = true) : pcM x < 2 ^ size.toNat ∧ pcM x < 18446744073709551616 := by
  unfold pcOk inB at h
  simp at h
  obtain ⟨⟨h1, h2⟩, h3, h4⟩ := h
  have e : x.len.toNat + x.pos.toNat ≤ size.toNat := by omega
  have h5 : mk x.len.toNat * 2 ^ x.pos.toNat < 2 ^ x.len.toNat * 2 ^ x.pos.toNat := Nat.mul_lt_mul_of_pos_right (by have := mk_succ x.len.toNat; omega) (Nat.two_pow_pos _)
  rw [← Nat.pow_add] at h5
  have h6 := Nat.pow_le_pow_right (n := 2) (by omega) e
  have h7 := pow_le size.toNat (by omega)
  unfold pcM
  omega
theorem pc_need (size : Int) (x : MPiece) (hs : 1 ≤ size ∧ size ≤ 64) (hx : (-9223372036854775808 ≤ x.pos ∧ x.pos ≤ 9223372036854775807) ∧ (-9223372036854775808 ≤ x.len ∧ x.len ≤ 9223372036854775807)) :
    needR 8 [inB x.len 1 size, inB x.pos 0 (wrap64 (size - x.len))] = if pcOk size x = true then 0 else 8 := by
  unfold needR pcOk
  by_cases h : inB x.len 1 size = true
  · have h' := h
    unfold inB at h'
    simp at h'
    have e : wrap64 (size - x.len) = size - x.len := wrap64_small _ (by omega) (by omega)
    rw [h, e]
    simp
  · have : inB x.len 1 size = false := by simpa using h
    rw [this]; simp
theorem piece_cells (w : World) (p l : Int) : ∀ B, w.heap.size = B → (w.alloc (.cells #[.int .i64 p, .int .i64 l] 33)).cell? ⟨B, 0, none⟩ = some (.int .i64 p) ∧ (w.alloc (.cells #[.int .i64 p, .int .i64 l] 33)).cell? ⟨B, 1, none⟩ = some (.int .i64 l) := by
  rintro _ rfl
  simp only [World.cell?]
  rw [heap_alloc_new]
  exact ⟨rfl, rfl⟩
theorem shl_wrap (a P T : Nat) (h : T = a * 2 ^ P) (hT : T < 18446744073709551616) : IntKind.u64.wrap ((a : Int) * 2 ^ P) = (T : Nat) := by
  have e : (a : Int) * 2 ^ P = ((T : Nat) : Int) := by rw [h]; simp
  rw [e, IntKind.wrap_u64]; omega
theorem needB1 (er : Int) (a : Bool) (w : World) (B : Nat) (h : w.heap.size = B) :
    Calls Try.prog 31 #[.int .i64 er, .slice (some ⟨B, 0, none⟩) 1 1] (w.alloc (.cells #[.bool a] 4)) fun e w' => e = .returned (.int .i64 (needR er [a])) ∧ w.alloc (.cells #[.bool a] 4) = w' := by subst h; exact need1 er a w
theorem needB2 (er : Int) (a b : Bool) (w : World) (B : Nat) (h : w.heap.size = B) :
    Calls Try.prog 31 #[.int .i64 er, .slice (some ⟨B, 0, none⟩) 2 2] (w.alloc (.cells #[.bool a, .bool b] 4)) fun e w' => e = .returned (.int .i64 (needR er [a, b])) ∧ w.alloc (.cells #[.bool a, .bool b] 4) = w' := by subst h; exact need2 er a b w
theorem needD1 (er : Int) (a : Bool) (w : World) (B : Nat) (h : w.heap.size = B) :
    Calls Try.prog 31 #[.int .i64 er, .slice (some ⟨B, 0, none⟩) 1 1] (w.alloc (.cells #[.bool a] 4)).drew fun e w' => e = .returned (.int .i64 (needR er [a])) ∧ (w.alloc (.cells #[.bool a] 4)).drew = w' := needB1 er a w.drew B h
theorem needD2 (er : Int) (a b : Bool) (w : World) (B : Nat) (h : w.heap.size = B) :
    Calls Try.prog 31 #[.int .i64 er, .slice (some ⟨B, 0, none⟩) 2 2] (w.alloc (.cells #[.bool a, .bool b] 4)).drew fun e w' => e = .returned (.int .i64 (needR er [a, b])) ∧ (w.alloc (.cells #[.bool a, .bool b] 4)).drew = w' := needB2 er a b w.drew B h
theorem needE1 (er : Int) (a : Bool) (w : World) (B : Nat) (h : w.heap.size = B) :
    Calls Try.prog 31 #[.int .i64 er, .slice (some ⟨B, 0, none⟩) 1 1] (w.alloc (.cells #[.bool a] 4)).drew.drew fun e w' => e = .returned (.int .i64 (needR er [a])) ∧ (w.alloc (.cells #[.bool a] 4)).drew.drew = w' := needB1 er a w.drew.drew B h
theorem needR_true (e : Int) : needR e [true] = 0 := rfl
theorem needR_false (e : Int) : needR e [false] = e := rfl
set_option warningAsError false in
theorem mask_walk (size : Int) (A : Option Addr) (c : Nat) (L : List MPiece) (w : World) (hs : 1 ≤ size ∧ size ≤ 64) (hA : PcsAt w A L) (hok : PcsOk L) (hc : L.length ≤ c) (hcm : c ≤ maxLen) (h4 : L.length ≤ 4) :
    Calls Try.prog 16 #[.int .i64 size, .slice A L.length c] w fun e w' => e = .returned (.tuple #[.int .u64 ((maskGo size 0 L).1 : Nat), .int .i64 (maskGo size 0 L).2]) ∧ Below w.heap.size w w' := by
  have HI := Lib.hid (fun W => isIn_any size 1 64 W)
  rw [show inB size 1 64 = true by unfold inB; simpa using hs] at HI
  obtain ⟨n, hn⟩ : ∃ n, L.length = n := ⟨_, rfl⟩
  have HN := Lib.hid hn
  have HA := Lib.hid hA
  have HOK := Lib.hid hok
  have hn4 : (n : Int) ≤ 4 := by omega
  rw [hn]
  obtain ⟨R, hR⟩ : ∃ R, maskGo size 0 L = R := ⟨_, rfl⟩
  rw [hR]
  have HR := Lib.hid hR
  obtain ⟨hs1, hs2⟩ := hs
  clear hn hA hok hc hcm h4 hR
  have g4 : decide ((n : Int) ≤ 4) = true := by simpa using hn4
  go_enter Try.func16, Try.ntmps16
  go_wp2_with (first
    | (go_at_call 37; (with_reducible refine (HI.out _).mono ?_); rintro e w' ⟨rfl, rfl⟩)
    | (go_at_call 31; (with_reducible refine (needB1 2 true _ _ (by simp)).mono ?_); rw [needR_true]; rintro e w' ⟨rfl, rfl⟩)
    | (go_at_call 31; (with_reducible refine (needB1 4 true _ _ (by simp)).mono ?_); rw [needR_true]; rintro e w' ⟨rfl, rfl⟩))
  go_loopw [8, 31] (fun vm vi wr => ∃ (m i : Nat), vm = .int .u64 m ∧ vi = .int .i64 i ∧ i ≤ n ∧ m < 18446744073709551616 ∧ Below w.heap.size w wr ∧ Hid (maskGo size m (L.drop i) = R)) (fun _ vi _ => n - (intOf vi).toNat)
  case atStart => exact ⟨0, 0, rfl, rfl, Nat.zero_le _, by decide, (((Below.refl _ w).alloc (Nat.le_refl _) _).alloc (by simp) _), Lib.hid (by rw [List.drop_zero]; exact HR.out)⟩
  case round =>
    obtain ⟨m, i, rfl, rfl, hi, hm, hbw, HG⟩ := hrel
    by_cases hlt : i < n
    · obtain ⟨x, hx⟩ : ∃ x, L[i]? = some x := ⟨_, List.getElem?_eq_getElem (by rw [HN.out]; exact hlt)⟩
      obtain ⟨g, o, rfl, hg, t0, t1⟩ := (HA.out.later hbw) i x hx
      have hxo := HOK.out x (List.mem_of_getElem? hx)
      have hd : L.drop i = x :: L.drop (i + 1) := by
        rw [List.drop_eq_getElem_cons (by rw [HN.out]; exact hlt)]
        congr 1
        exact Option.some.inj ((List.getElem?_eq_getElem _).symm.trans hx)
      have HG2 := HG.out
      rw [hd] at HG2
      simp only [maskGo] at HG2
      have hpn := pc_need size x ⟨hs1, hs2⟩ hxo
      have HLT := Lib.hid hlt
      have HM := Lib.hid hm
      obtain ⟨PC, hPC⟩ : ∃ PC, pcOk size x = PC := ⟨_, rfl⟩
      have HPC := Lib.hid hPC
      rw [hPC] at hpn HG2
      have HGH := Lib.hid HG2
      obtain ⟨p, hp⟩ : ∃ p, x.pos = p := ⟨_, rfl⟩
      obtain ⟨l, hl⟩ : ∃ l, x.len = l := ⟨_, rfl⟩
      rw [hp] at t0 hpn
      rw [hl] at t1 hpn
      have HPN := Lib.hid hpn
      have I1 := Lib.hid (fun W => isIn_any l 1 size W)
      have I2 := Lib.hid (fun z W => isIn_any p 0 z W)
      have HPL := Lib.hid (And.intro hp hl)
      clear HG2 hpn hd hxo hx hm hPC hp hl hg
      obtain ⟨B, hB⟩ : ∃ B, wr.heap.size = B := ⟨_, rfl⟩
      have hPCELL := piece_cells wr p l B hB
      have HPM := Lib.hid (pcM_lt (x := x) hs2)
      cases PC
      · simp only [Bool.false_eq_true, if_false] at HPN HGH
        go_wp2_with fail
        refine wp_region_still_tail 11 (by kernel_rfl) (by kernel_rfl) ?_
        change wpStill _ _ (World.drew _) (fun a' => wpList _ _ _ _ a' (World.drew _)) _ _
        simp only [List.take_succ_cons, List.take_zero, List.drop_succ_cons, List.drop_zero]
        repeat (first
          | still_step
          | (refine wpStill_step (fun K hK => ?_); go_simp; (with_reducible refine ⟨_, still_eq (I1.out _), hK _ ?_⟩); clear hK K)
          | (refine wpStill_step (fun K hK => ?_); go_simp; (with_reducible refine ⟨_, still_eq (I2.out _ _), hK _ ?_⟩); clear hK K))
        refine wpStill_nil ?_
        go_wp2_with (go_at_call 31; (with_reducible refine (needD2 8 _ _ _ _ (by simp; omega)).mono ?_); rw [HPN.out]; rintro e w5 ⟨rfl, rfl⟩)
        go_ret2
        rw [← HGH.out]
        exact ⟨rfl, ((hbw.alloc hbw.size _).alloc (by have := hbw.size; simp; omega) _).drew⟩
      · simp only [if_true] at HPN HGH
        obtain ⟨P, rfl⟩ : ∃ P : Nat, p = P := ⟨p.toNat, by have := HPC.out; unfold pcOk inB at this; rw [HPL.out.1, HPL.out.2] at this; simp at this; omega⟩
        obtain ⟨l', rfl⟩ : ∃ P : Nat, l = P := ⟨l.toNat, by have := HPC.out; unfold pcOk inB at this; rw [HPL.out.1, HPL.out.2] at this; simp at this; omega⟩
        obtain ⟨q1, q2, q3⟩ : 1 ≤ l' ∧ l' ≤ 64 ∧ l' + P ≤ 64 := by have := HPC.out; unfold pcOk inB at this; rw [HPL.out.1, HPL.out.2] at this; simp at this; omega
        obtain ⟨hT1, hT2⟩ := HPM.out HPC.out
        have hPCM : pcM x = mk l' * 2 ^ P := by unfold pcM; rw [HPL.out.1, HPL.out.2]; rfl
        have HMK := Lib.hid (fun W => mask_yes l' W q1 q2)
        obtain ⟨T, hT⟩ : ∃ T, pcM x = T := ⟨_, rfl⟩
        rw [hT] at hT2 hPCM HGH
        have hW := shl_wrap (mk l') P T hPCM hT2
        have HPN2 : Hid (needR 8 [inB (l' : Int) 1 size, inB (P : Int) 0 (size - l')] = 0) := Lib.hid (by
          have h := HPC.out
          unfold pcOk at h
          rw [HPL.out.1, HPL.out.2, Bool.and_eq_true] at h
          rw [h.1, h.2]; rfl)
        have HAND := Lib.hid (bits_and_u64_nat m T HM.out hT2)
        have HOR := Lib.hid (bits_or_u64_nat m T HM.out hT2)
        have hmT : m ||| T < 18446744073709551616 := Nat.or_lt_two_pow (n := 64) HM.out hT2
        have HMT := Lib.hid hmT
        clear hPCM hT hT1 hT2
        have hq : (bits .and .u64 (m : Int) (T : Int) == 0) = decide (m &&& T = 0) := by
          rw [HAND.out]
          by_cases e : m &&& T = 0
          · rw [e]; rfl
          · simp [e]
        have hor := HOR.out
        by_cases hfree : m &&& T = 0
        all_goals
          simp only [hfree, if_true, if_false, decide_true, decide_false] at HGH hq
          clear hfree
          go_wp2_with fail
          refine wp_region_still_tail 11 (by kernel_rfl) (by kernel_rfl) ?_
          change wpStill _ _ (World.drew _) (fun a' => wpList _ _ _ _ a' (World.drew _)) _ _
          simp only [List.take_succ_cons, List.take_zero, List.drop_succ_cons, List.drop_zero]
          repeat (first
            | still_step
            | (refine wpStill_step (fun K hK => ?_); go_simp; (with_reducible refine ⟨_, still_eq (I1.out _), hK _ ?_⟩); clear hK K)
            | (refine wpStill_step (fun K hK => ?_); go_simp; (with_reducible refine ⟨_, still_eq (I2.out _ _), hK _ ?_⟩); clear hK K))
          refine wpStill_nil ?_
          go_wp2_with (go_at_call 31; (with_reducible refine (needD2 8 _ _ _ _ (by simp; omega)).mono ?_); rw [HPN2.out]; rintro e w5 ⟨rfl, rfl⟩)
          refine wp_region_still_lit (by kernel_rfl) (by kernel_rfl) ?_
          change wpStill _ _ (World.drew _) _ _ _
          repeat (first
            | still_step
            | (refine wpStill_step (fun K hK => ?_); go_simp; (with_reducible refine ⟨_, still_eq (HMK.out _), hK _ ?_⟩); clear hK K))
          refine wpStill_nil ?_
          change Exit.then _ _ _ _ (World.drew _)
          go_wp2_with (go_at_call 31; (with_reducible refine (needE1 8 _ _ _ (by simp; omega)).mono ?_); (first | rw [needR_true] | rw [needR_false]); rintro e w5 ⟨rfl, rfl⟩)
        · go_roundw
          case rel =>
            refine ⟨m ||| T, i + 1, by first | rfl | go_num, by first | rfl | go_num | (congr 1), by have := HLT.out; omega, HMT.out, ?_, Lib.hid HGH.out⟩
            exact (((hbw.alloc hbw.size _).alloc (by have := hbw.size; simp; omega) _).alloc (by have := hbw.size; simp; omega) _).drew.drew
          case measure => simp only [intOf]; have := HLT.out; omega
        · go_ret2
          rw [← HGH.out]
          exact ⟨rfl, (((hbw.alloc hbw.size _).alloc (by have := hbw.size; simp; omega) _).alloc (by have := hbw.size; simp; omega) _).drew.drew⟩
    · obtain rfl : i = n := by omega
      have HG2 := HG.out
      rw [List.drop_of_length_le (by rw [HN.out]; exact Nat.le_refl _)] at HG2
      simp only [maskGo] at HG2
      have HH := Lib.hid HG2
      clear HG2
      go_wp2
      go_ret2
      rw [← HH.out]
      exact ⟨rfl, hbw⟩
theorem mask_any (size : Int) (A : Option Addr) (c : Nat) (L : List MPiece) (w : World) (hA : PcsAt w A L) (hok : PcsOk L) (hc : L.length ≤ c) (hcm : c ≤ maxLen) :
    Calls Try.prog 16 #[.int .i64 size, .slice A L.length c] w fun e w' => e = .returned (.tuple #[.int .u64 ((maskR size L).1 : Nat), .int .i64 (maskR size L).2]) ∧ Below w.heap.size w w' := by
  by_cases hs : 1 ≤ size ∧ size ≤ 64
  · by_cases h4 : L.length ≤ 4
    · have := mask_walk size A c L w hs hA hok hc hcm h4
      rwa [show maskR size L = maskGo size 0 L by unfold maskR; rw [if_pos hs, if_pos h4]]
    · have HI := Lib.hid (fun W => isIn_any size 1 64 W)
      rw [show inB size 1 64 = true by unfold inB; simpa using hs] at HI
      rw [show maskR size L = (0, 4) by unfold maskR; rw [if_pos hs, if_neg h4]]
      obtain ⟨n, hn⟩ : ∃ n, L.length = n := ⟨_, rfl⟩
      rw [hn] at h4 ⊢
      have g4 : decide ((n : Int) ≤ 4) = false := by simp; omega
      clear hA hok hc hcm h4 hs hn
      go_enter Try.func16, Try.ntmps16
      go_wp2_with (first
        | (go_at_call 37; (with_reducible refine (HI.out _).mono ?_); rintro e w' ⟨rfl, rfl⟩)
        | (go_at_call 31; (with_reducible refine (needB1 2 true _ _ (by simp)).mono ?_); rw [needR_true]; rintro e w' ⟨rfl, rfl⟩)
        | (go_at_call 31; (with_reducible refine (needB1 4 false _ _ (by simp)).mono ?_); rw [needR_false]; rintro e w' ⟨rfl, rfl⟩))
      go_ret2
      exact ⟨rfl, ((Below.refl _ w).alloc (Nat.le_refl _) _).alloc (by simp) _⟩
  · have HI := Lib.hid (fun W => isIn_any size 1 64 W)
    rw [show inB size 1 64 = false by unfold inB; simpa using hs] at HI
    rw [show maskR size L = (0, 2) by unfold maskR; rw [if_neg hs]]
    clear hA hok hc hcm hs
    go_enter Try.func16, Try.ntmps16
    go_wp2_with (first
      | (go_at_call 37; (with_reducible refine (HI.out _).mono ?_); rintro e w' ⟨rfl, rfl⟩)
      | (go_at_call 31; (with_reducible refine (needB1 2 false _ _ (by simp)).mono ?_); rw [needR_false]; rintro e w' ⟨rfl, rfl⟩))
    go_ret2
    exact ⟨rfl, (Below.refl _ w).alloc (Nat.le_refl _) _⟩
theorem check_any (size : Int) (A : Option Addr) (c : Nat) (L : List MPiece) (w : World) (hA : PcsAt w A L) (hok : PcsOk L) (hc : L.length ≤ c) (hcm : c ≤ maxLen) :
    Calls Try.prog 19 #[.int .i64 size, .slice A L.length c] w fun e w' => e = .returned (.int .i64 (maskR size L).2) ∧ Below w.heap.size w w' := by
  have HM := Lib.hid (fun W (h : PcsAt W A L) => mask_any size A c L W h hok hc hcm)
  have HA := Lib.hid hA
  obtain ⟨n, hn⟩ : ∃ n, L.length = n := ⟨_, rfl⟩
  rw [hn] at HM ⊢
  generalize (maskR size L).1 = x at *
  generalize (maskR size L).2 = z at *
  clear hA hok hc hcm hn
  go_enter Try.func19, Try.ntmps19
  go_wp2_with (go_at_call 16; (with_reducible refine (HM.out _ HA.out).mono ?_); rintro e w' ⟨rfl, hb⟩)
  go_ret
  exact ⟨rfl, hb⟩
end Go.Proofs.Ytjbapjgagiaefaa
