/- The walk of BitsTexts. -/
import Derived.Test.YtffmijafhchjgaaDoorRefParse
import Derived.Test.YtffmijafhchjgaaDoorRefName
import Derived.Test.YtffmijafhchjgaaDoorRows
namespace Go.Proofs.YtffmijafhchjgaaDoor.bitsTexts
open Go.RowKit Go.Sort
set_option linter.unusedVariables false

theorem refText_int (n : Int) (x : Nat) (w : World) (hx : x < 18446744073709551616) :
    Calls Tryd.prog 6 #[.int .i64 n, .int .u64 x] w fun e w' => e = .returned (.tuple #[.string (textR n x).1, .int .i64 (textR n x).2]) ∧ Below w.heap.size w w' := by
  by_cases h : n < 1 ∨ 64 < n
  · rw [show textR n x = (⟨#[]⟩, 14) by unfold textR; rw [if_pos h]]
    exact refText_no n x w h
  · obtain ⟨m, rfl⟩ : ∃ m : Nat, n = m := ⟨n.toNat, by omega⟩
    exact refText_any m x w (by omega) (by omega) hx
theorem found (s : ByteArray) : ∃ (rn rx : Nat) (re : Int), Found s rn rx re := by
  by_cases h : ∃ n x, 1 ≤ n ∧ n ≤ 64 ∧ x < 2 ^ n ∧ s = textB n x
  · obtain ⟨n, x, h0, h1, hx, hs⟩ := h
    exact ⟨n, x, 0, Or.inl ⟨h0, h1, hx, hs, rfl⟩⟩
  · exact ⟨0, 0, 12, Or.inr ⟨rfl, rfl, rfl, fun n x h0 h1 hx hs => h ⟨n, x, h0, h1, hx, hs⟩⟩⟩

set_option maxRecDepth 100000 in
theorem core (n : Int) (x : Nat) (s : ByteArray) (w : World) (hx : x < 18446744073709551616) (he : ErrsAt w) :
    Calls Tryd.prog 3 #[.int .i64 n, .int .u64 x, .string s] w fun e w' => e = .returned (.bool true) ∧ Below w.heap.size w w' := by
  by_cases hm : s.size ≤ 1000
  · obtain ⟨rn, rx, re, hf⟩ := found s
    have T1 := Lib.hid (fun W => textP_any n x W)
    have T2 := Lib.hid (fun W => refText_int n x W hx)
    have P1 := Lib.hid (fun (W : World) (hE : ErrsAt W) => parse_any s rn rx re W hm hE hf)
    have P2 := Lib.hid (fun (W : World) => refParse_any s rn rx re W hm hf)
    have N1 := Lib.hid (fun W => name_any s W hm)
    have N2 := Lib.hid (fun W => refName_any s W hm)
    have HE := Lib.hid he
    have hm' : decide ((1000 : Int) < (s.size : Int)) = false := by simp; omega
    generalize (textR n x).1 = t at *
    generalize (textR n x).2 = e0 at *
    generalize nameR s = b at *
    clear hx he hf hm
    go_enter Tryd.func3, Tryd.ntmps3
    go_wp2_with (first
      | (go_at_call 5; (with_reducible refine (T1.out _).mono ?_); rintro e w1 ⟨rfl, hb1⟩; replace hb1 := Lib.hid hb1)
      | (go_at_call 6; (with_reducible refine (T2.out _).mono ?_); rintro e w2 ⟨rfl, hb2⟩; replace hb2 := Lib.hid hb2)
      | (go_at_call 7; (with_reducible refine (P1.out _ ((HE.out.below hb1.out).below hb2.out)).mono ?_); rintro e w3 ⟨rfl, hb3⟩; replace hb3 := Lib.hid hb3)
      | (go_at_call 8; (with_reducible refine (P2.out _).mono ?_); rintro e w4 ⟨rfl, hb4⟩; replace hb4 := Lib.hid hb4)
      | (go_at_call 9; (with_reducible refine (N1.out _).mono ?_); rintro e w5 ⟨rfl, hb5⟩; replace hb5 := Lib.hid hb5)
      | (go_at_call 10; (with_reducible refine (N2.out _).mono ?_); rintro e w6 ⟨rfl, hb6⟩; replace hb6 := Lib.hid hb6))
    go_ret
    have thenB : ∀ {a b c : World}, Below a.heap.size a b → Below b.heap.size b c → Below a.heap.size a c := fun h k => h.trans (k.mono h.size)
    exact ⟨by simp, thenB (thenB (thenB (thenB (thenB hb1.out hb2.out) hb3.out) hb4.out) hb5.out) hb6.out⟩
  · have hm' : decide ((1000 : Int) < (s.size : Int)) = true := by simp; omega
    clear hm
    go_enter Tryd.func3, Tryd.ntmps3
    go_wp2
    go_ret
    exact ⟨rfl, Below.refl _ _⟩

theorem filtered : (Rows.bitsTextsRow.laid.filter fun x => x.2.handleName?.isNone) = Rows.bitsTextsRow.laid := by kernel_rfl
theorem cell_at {W : World} {g : Nat} {c : Array Value} {el : TypeId} {fr : Nat × Nat} {v : Value} (h : W.heap[g]? = some (.cells c el fr)) (hc : c[0]? = some v) : W.cell? ⟨g, 0, none⟩ = some v := by
  simp [World.cell?, h, hc]
theorem lt_at {W : World} {g : Nat} {o : Obj} (h : W.heap[g]? = some o) : g < W.heap.size := Nat.lt_of_not_le fun hle => by
  have hn : W.heap[g]? = none := by simp [hle]
  rw [hn] at h
  cases h
theorem errs (W : World) (hL : laidMetH Tryd.prog Rows.bitsTextsRow.laid W) : ErrsAt W := by
  have hm : laidMet Tryd.prog Rows.bitsTextsRow.laid W := by
    have h1 := (laidMetH_iff.1 hL).1
    rw [filtered] at h1
    exact h1
  obtain ⟨u3, y3, c3, e3, r3, h3, k3⟩ := Go.Play.laid_iface hm (List.mem_of_getElem? (show Rows.bitsTextsRow.laid[3]? = some _ from rfl)) (g := 2) (by kernel_rfl) (t := ((Tryd.prog.globals[2]?).map (·.type)).getD 0) (by kernel_rfl) (by kernel_rfl)
  obtain ⟨u4, y4, c4, e4, r4, h4, k4⟩ := Go.Play.laid_iface hm (List.mem_of_getElem? (show Rows.bitsTextsRow.laid[4]? = some _ from rfl)) (g := 1) (by kernel_rfl) (t := ((Tryd.prog.globals[1]?).map (·.type)).getD 0) (by kernel_rfl) (by kernel_rfl)
  exact ⟨⟨_, _, cell_at h4 k4⟩, ⟨_, _, cell_at h3 k3⟩, lt_at h4, lt_at h3⟩

theorem walk (a0 a1 : Int) (a2 : ByteArray) (w0 : (Lit.int .i64 a0).wf = true) (w1 : (Lit.int .u64 a1).wf = true) {q2 : Prop} (w2 : q2) (W : World) (hL : laidMetH Tryd.prog Rows.bitsTextsRow.laid W) :
    Calls Tryd.prog 3 #[.int .i64 a0, .int .u64 a1, .string a2] W fun e w' => e = .returned (.bool true) ∧ Below W.heap.size W w' := by
  simp [Lit.wf, IntKind.min, IntKind.max, IntKind.bits, IntKind.signed] at w1
  obtain ⟨x, rfl⟩ : ∃ m : Nat, a1 = m := ⟨a1.toNat, by omega⟩
  exact core a0 x a2 W (by omega) (errs W hL)
end Go.Proofs.YtffmijafhchjgaaDoor.bitsTexts
