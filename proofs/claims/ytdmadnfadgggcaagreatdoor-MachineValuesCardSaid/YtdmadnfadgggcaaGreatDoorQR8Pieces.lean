import Derived.Test.YtdmadnfadgggcaaGreatDoorQR8Base
set_option linter.unusedVariables false
set_option linter.unusedSimpArgs false
set_option warningAsError false
set_option maxHeartbeats 4000000
open Go.Lib (hid)
open Go.Proofs.Tryz (prog)
namespace Go.Proofs.YtdmadnfadgggcaaGreatDoor
open Go.RowKit Go.Instr
set_option maxRecDepth 100000
theorem zbt (W : World) (x : MOper) (cs : List Value) (hE : z1g W cs x) (h4 : x.pieces.length <= 1000) :
 Calls prog 116 #[.agg cs.toArray] W fun e w' => e = .returned (.int .i64 (fwR 0 x.pieces)) /\ Below W.heap.size W w' := by
 obtain ⟨sv, rfl, _, _, _, _, hp, _⟩ := hE;have HP := hid hp;obtain ⟨A, c, rfl, _⟩ := hp;obtain ⟨L, hL⟩ : ∃ L, x.pieces = L := ⟨_, rfl⟩;rw [hL] at HP h4 ⊢;obtain ⟨n, hn⟩ : ∃ n, L.length = n := ⟨_, rfl⟩;have HN := hid hn;rw [hn] at HP ⊢;have hn4 : n <= 9223372036854775807 := by omega
 obtain ⟨W1, hW1⟩ : ∃ W1, W1 = W.alloc (.cells #[.string x.name, .int .u8 x.kind, .int .i64 x.bank, .int .i64 x.scale, .slice A n c, .int .i64 x.tied] 86) := ⟨_, rfl⟩;have hb1 : Below W.heap.size W W1 := by rw [hW1]; exact (Below.refl _ _).alloc (Nat.le_refl _) _
 have hl1 : W.heap.size < W1.heap.size := by rw [hW1]; simp
 have hblk1 : W1.heap[W.heap.size]? = some (.cells #[.string x.name, .int .u8 x.kind, .int .i64 x.bank, .int .i64 x.scale, .slice A n c, .int .i64 x.tied] 86) := by rw [hW1]; exact heap_alloc_new _ _
 have HQ := hid (show ∀ X, Below W1.heap.size W1 X -> X.cell? ⟨W.heap.size, 4, none⟩ = some (.slice A n c) from fun X hX => zb ((hX.block _ hl1).trans hblk1) rfl);have HGR := hid (show ∀ X, Below W1.heap.size W1 X -> Below W.heap.size W X from fun X hX => hb1.trans (hX.mono hb1.size));obtain ⟨r, hr⟩ : ∃ r, fwR 0 L = r := ⟨_, rfl⟩;have HR := hid hr;have HW1 := hid hW1;rw [hr];clear hL hn hr h4 hb1 hl1 hblk1 hW1;show Calls prog 116 #[.agg #[.string x.name, .int .u8 x.kind, .int .i64 x.bank, .int .i64 x.scale, .slice A n c, .int .i64 x.tied]] W _;go_enter Tryz.func116, Tryz.ntmps116
 go_wp2
 rw [<- HW1.out];go_loopw [3, 4] (fun va vi wr => ∃ (a : Int) (i : Nat), va = .int .i64 a /\ vi = .int .i64 i /\ i <= n /\ Hid (Below W1.heap.size W1 wr /\ fwR a (L.drop i) = r)) (fun _ vi _ => n - (intOf vi).toNat)
 case atStart => exact ⟨0, 0, rfl, rfl, Nat.zero_le _, hid ⟨Below.refl _ _, by rw [List.drop_zero]; exact HR.out⟩⟩
 case round =>
  obtain ⟨a, i, rfl, rfl, hi, HI⟩ := hrel;obtain ⟨hbx, hg⟩ := HI.out;have hbw := HGR.out _ hbx;have c4 := HQ.out _ hbx;by_cases hlt : i < n
  ·obtain ⟨p, hp⟩ : ∃ p, L[i]? = some p := ⟨_, List.getElem?_eq_getElem (by rw [HN.out]; exact hlt)⟩;obtain ⟨A', c', e1, _, _, _, hall⟩ := HP.out.kept (fun cs x hx => z44.kept hx hbw) hbw;obtain ⟨b, o, cs, e2, hb, hcl, hcell, hE⟩ := hall i p hp;obtain ⟨rfl, rfl⟩ : A = A' /\ c = c' := by cases e1; exact ⟨rfl, rfl⟩
   subst e2;obtain ⟨rfl, _⟩ := hE;have p1 : wr.cell? ⟨b, o + i * 2 + 1, none⟩ = some (.int .i64 p.len) := hcell 1 _ rfl;have hd : L.drop i = p :: L.drop (i + 1) := by
    rw [List.drop_eq_getElem_cons (by rw [HN.out]; exact hlt)]
    congr 1
    exact Option.some.inj ((List.getElem?_eq_getElem _).symm.trans hp)
   have HG := hid (show fwR (wrap64 (a + p.len)) (L.drop (i + 1)) = r by rw [<- hg, hd]; rfl);have HBX := hid hbx;have HLT := hid hlt;have hin : (i : Int) < (n : Int) := by omega
   clear hg hd hcell hcl hall hp e1 hbw HI hbx;go_wp2
   refine ⟨⟨_, i + 1, rfl, by first | rfl | go_num | (congr 1), by have := HLT.out; omega, hid ⟨HBX.out, HG.out⟩⟩, by simp only [intOf]; have := HLT.out; omega⟩
  ·obtain rfl : i = n := by omega
   rw [List.drop_eq_nil_of_le (by rw [HN.out]; exact Nat.le_refl _)] at hg;obtain rfl : a = r := hg;go_wp2
   go_ret
   exact ⟨rfl, hbw⟩
theorem z88 (W : World) (x : MOper) (cs : List Value) (hE : z1g W cs x) (h4 : x.pieces.length <= 1000) (word : Int) (hw : 1 <= word /\ word <= 4) :
 Calls prog 125 #[.agg cs.toArray, .int .i64 word] W fun e w' => e = .returned (.bool (x.pieces.all (zv word))) /\ Below W.heap.size W w' := by
 obtain ⟨sv, rfl, _, _, _, _, hp, _⟩ := hE;have HP := hid hp;obtain ⟨A, c, rfl, _⟩ := hp;obtain ⟨L, hL⟩ : ∃ L, x.pieces = L := ⟨_, rfl⟩;rw [hL] at HP h4 ⊢;obtain ⟨n, hn⟩ : ∃ n, L.length = n := ⟨_, rfl⟩;have HN := hid hn;rw [hn] at HP ⊢;have hn4 : n <= 9223372036854775807 := by omega
 obtain ⟨W1, hW1⟩ : ∃ W1, W1 = W.alloc (.cells #[.string x.name, .int .u8 x.kind, .int .i64 x.bank, .int .i64 x.scale, .slice A n c, .int .i64 x.tied] 86) := ⟨_, rfl⟩;have hb1 : Below W.heap.size W W1 := by rw [hW1]; exact (Below.refl _ _).alloc (Nat.le_refl _) _
 have hl1 : W.heap.size < W1.heap.size := by rw [hW1]; simp
 have hblk1 : W1.heap[W.heap.size]? = some (.cells #[.string x.name, .int .u8 x.kind, .int .i64 x.bank, .int .i64 x.scale, .slice A n c, .int .i64 x.tied] 86) := by rw [hW1]; exact heap_alloc_new _ _
 have HQ := hid (show ∀ X, Below W1.heap.size W1 X -> X.cell? ⟨W.heap.size, 4, none⟩ = some (.slice A n c) from fun X hX => zb ((hX.block _ hl1).trans hblk1) rfl);have HGR := hid (show ∀ X, Below W1.heap.size W1 X -> Below W.heap.size W X from fun X hX => hb1.trans (hX.mono hb1.size));obtain ⟨r, hr⟩ : ∃ r, L.all (zv word) = r := ⟨_, rfl⟩;have HR := hid hr;have HW1 := hid hW1;have w8 : wrap64 (8 * word) = 8 * word := zd _ (by omega) (by omega);have HWD := hid hw;rw [hr];clear hL hn hr h4 hb1 hl1 hblk1 hW1 hw;show Calls prog 125 #[.agg #[.string x.name, .int .u8 x.kind, .int .i64 x.bank, .int .i64 x.scale, .slice A n c, .int .i64 x.tied], .int .i64 word] W _;go_enter Tryz.func125, Tryz.ntmps125
 go_wp2
 rw [<- HW1.out];go_loopw [5] (fun vi wr => ∃ (i : Nat), vi = .int .i64 i /\ i <= n /\ Hid (Below W1.heap.size W1 wr /\ (L.drop i).all (zv word) = r)) (fun vi _ => n - (intOf vi).toNat)
 case atStart => exact ⟨0, rfl, Nat.zero_le _, hid ⟨Below.refl _ _, by rw [List.drop_zero]; exact HR.out⟩⟩
 case round =>
  obtain ⟨i, rfl, hi, HI⟩ := hrel;obtain ⟨hbx, hg⟩ := HI.out;have hbw := HGR.out _ hbx;have c4 := HQ.out _ hbx;by_cases hlt : i < n
  ·obtain ⟨p, hp⟩ : ∃ p, L[i]? = some p := ⟨_, List.getElem?_eq_getElem (by rw [HN.out]; exact hlt)⟩;obtain ⟨A', c', e1, _, _, _, hall⟩ := HP.out.kept (fun cs x hx => z44.kept hx hbw) hbw;obtain ⟨b, o, cs, e2, hb, hcl, hcell, hE⟩ := hall i p hp;obtain ⟨rfl, rfl⟩ : A = A' /\ c = c' := by cases e1; exact ⟨rfl, rfl⟩
   subst e2;obtain ⟨rfl, hp0, hl0⟩ := hE;have q0 : wr.cell? ⟨b, o + i * 2, none⟩ = some (.int .i64 p.pos) := by simpa using hcell 0 _ rfl
   have q1 : wr.cell? ⟨b, o + i * 2 + 1, none⟩ = some (.int .i64 p.len) := hcell 1 _ rfl;have hd : L.drop i = p :: L.drop (i + 1) := by
    rw [List.drop_eq_getElem_cons (by rw [HN.out]; exact hlt)]
    congr 1
    exact Option.some.inj ((List.getElem?_eq_getElem _).symm.trans hp)
   rw [hd, List.all_cons] at hg;rw [show zv word p = (decide (1 <= p.len /\ p.len <= 8 * word) && decide (0 <= p.pos /\ p.pos <= 8 * word - p.len)) from rfl] at hg;obtain ⟨ps, hps⟩ : ∃ z, p.pos = z := ⟨_, rfl⟩;obtain ⟨ln, hln⟩ : ∃ z, p.len = z := ⟨_, rfl⟩;rw [hps] at hg q0 hp0;rw [hln] at hg q1 hl0;have HBX := hid hbx;have HA1 := hid (hbx.alloc hbx.size (.cells #[.int .i64 ps, .int .i64 ln] 172));have HLT := hid hlt;have hin : (i : Int) < (n : Int) := by omega
   have HI1 := hid (fun X => z1d X ln 1 (8 * word));obtain ⟨f0, f1⟩ := z45 wr ps ln _ rfl;by_cases h1 : 1 <= ln /\ ln <= 8 * word
   ·have h9 : wrap64 (8 * word - ln) = 8 * word - ln := zd _ (by have := HWD.out; omega) (by have := HWD.out; omega);have HI2 := hid (fun X => z1d X ps 0 (8 * word - ln));rw [decide_eq_true h1] at HI1 hg;obtain ⟨g, hgg⟩ : ∃ g, decide (0 <= ps /\ ps <= 8 * word - ln) = g := ⟨_, rfl⟩;rw [hgg] at HI2 hg;have HG := hid hg;clear hd hcell hcl hall hp e1 hbw HI hbx hps hln hgg hg hp0 hl0 h1
    cases g with
    | true =>
      go_wp2_with (first
       | (go_at_call 46; (with_reducible refine (HI1.out _).mono ?_); rintro e w5 ⟨rfl, rfl⟩)
       | (go_at_call 46; (with_reducible refine (HI2.out _).mono ?_); rintro e w6 ⟨rfl, rfl⟩))
      refine ⟨⟨i + 1, by first | rfl | go_num | (congr 1), by have := HLT.out; omega, hid ⟨HA1.out, HG.out⟩⟩, by simp only [intOf]; have := HLT.out; omega⟩
    | false =>
      obtain rfl : false = r := by have := HG.out; simpa using this
      go_wp2_with (first
       | (go_at_call 46; (with_reducible refine (HI1.out _).mono ?_); rintro e w5 ⟨rfl, rfl⟩)
       | (go_at_call 46; (with_reducible refine (HI2.out _).mono ?_); rintro e w6 ⟨rfl, rfl⟩))
      go_ret
      exact ⟨rfl, HGR.out _ HA1.out⟩
   ·rw [decide_eq_false h1] at HI1 hg;obtain rfl : false = r := by simpa using hg
    clear hd hcell hcl hall hp e1 hbw HI hbx hps hln hg hp0 hl0 h1;go_wp2_with (go_at_call 46; (with_reducible refine (HI1.out _).mono ?_); rintro e w5 ⟨rfl, rfl⟩)
    go_ret
    exact ⟨rfl, HGR.out _ HA1.out⟩
  ·obtain rfl : i = n := by omega
   rw [List.drop_eq_nil_of_le (by rw [HN.out]; exact Nat.le_refl _)] at hg;obtain rfl : true = r := hg;go_wp2
   go_ret
   exact ⟨rfl, hbw⟩
end Go.Proofs.YtdmadnfadgggcaaGreatDoor
