/- The run of TermCompose, by the kernel, over Play's evaluator; with what the listed package variables hold. -/
import Derived.Test.YthogpmddijbigaaGreatDoorPlayCut
import Derived.Test.YthogpmddijbigaaGreatDoorRows
import Derived.KernelRfl
namespace Go.Proofs.YthogpmddijbigaaGreatDoor.termCompose
open Go.Play Go.RowKit
set_option linter.unusedVariables false
set_option maxRecDepth 1000000
def gl (u3 : TypeId) (y3 : Value) (u4 : TypeId) (y4 : Value) : Glob := [(5, [.lit (.int .u8 0), .lit (.int .u8 1), .lit (.int .u8 28), .lit (.int .u8 2), .lit (.int .u8 29), .lit (.int .u8 14), .lit (.int .u8 24), .lit (.int .u8 3), .lit (.int .u8 30), .lit (.int .u8 22), .lit (.int .u8 20), .lit (.int .u8 15), .lit (.int .u8 25), .lit (.int .u8 17), .lit (.int .u8 4), .lit (.int .u8 8), .lit (.int .u8 31), .lit (.int .u8 27), .lit (.int .u8 13), .lit (.int .u8 23), .lit (.int .u8 21), .lit (.int .u8 19), .lit (.int .u8 16), .lit (.int .u8 7), .lit (.int .u8 26), .lit (.int .u8 12), .lit (.int .u8 18), .lit (.int .u8 6), .lit (.int .u8 11), .lit (.int .u8 5), .lit (.int .u8 10), .lit (.int .u8 9)]), (6, [.lit (.int .u8 0), .lit (.int .u8 1), .lit (.int .u8 56), .lit (.int .u8 2), .lit (.int .u8 57), .lit (.int .u8 49), .lit (.int .u8 28), .lit (.int .u8 3), .lit (.int .u8 61), .lit (.int .u8 58), .lit (.int .u8 42), .lit (.int .u8 50), .lit (.int .u8 38), .lit (.int .u8 29), .lit (.int .u8 17), .lit (.int .u8 4), .lit (.int .u8 62), .lit (.int .u8 47), .lit (.int .u8 59), .lit (.int .u8 36), .lit (.int .u8 45), .lit (.int .u8 43), .lit (.int .u8 51), .lit (.int .u8 22), .lit (.int .u8 53), .lit (.int .u8 39), .lit (.int .u8 33), .lit (.int .u8 30), .lit (.int .u8 24), .lit (.int .u8 18), .lit (.int .u8 12), .lit (.int .u8 5), .lit (.int .u8 63), .lit (.int .u8 55), .lit (.int .u8 48), .lit (.int .u8 27), .lit (.int .u8 60), .lit (.int .u8 41), .lit (.int .u8 37), .lit (.int .u8 16), .lit (.int .u8 46), .lit (.int .u8 35), .lit (.int .u8 44), .lit (.int .u8 21), .lit (.int .u8 52), .lit (.int .u8 32), .lit (.int .u8 23), .lit (.int .u8 11), .lit (.int .u8 54), .lit (.int .u8 26), .lit (.int .u8 40), .lit (.int .u8 15), .lit (.int .u8 34), .lit (.int .u8 20), .lit (.int .u8 31), .lit (.int .u8 10), .lit (.int .u8 25), .lit (.int .u8 14), .lit (.int .u8 19), .lit (.int .u8 9), .lit (.int .u8 13), .lit (.int .u8 8), .lit (.int .u8 7), .lit (.int .u8 6)]), (4, [.lit (.int .u64 1), .lit (.int .u64 10), .lit (.int .u64 100), .lit (.int .u64 1000), .lit (.int .u64 10000), .lit (.int .u64 100000), .lit (.int .u64 1000000), .lit (.int .u64 10000000), .lit (.int .u64 100000000), .lit (.int .u64 1000000000), .lit (.int .u64 10000000000), .lit (.int .u64 100000000000), .lit (.int .u64 1000000000000), .lit (.int .u64 10000000000000), .lit (.int .u64 100000000000000), .lit (.int .u64 1000000000000000), .lit (.int .u64 10000000000000000), .lit (.int .u64 100000000000000000), .lit (.int .u64 1000000000000000000), .lit (.int .u64 10000000000000000000)]), (3, [.lit (.iface u3 y3)]), (2, [.lit (.iface u4 y4)]), (0, [.lit (.string ⟨#[]⟩), .lit (.int .i64 0), .lit (.string ⟨#[]⟩), .lit (.int .i64 0), .lit (.string ⟨#[]⟩), .lit (.int .i64 0), .lit (.string ⟨#[110, 111, 116]⟩), .lit (.int .i64 1), .lit (.string ⟨#[110, 101, 103]⟩), .lit (.int .i64 1), .lit (.string ⟨#[97, 100, 100]⟩), .lit (.int .i64 2), .lit (.string ⟨#[115, 117, 98]⟩), .lit (.int .i64 2), .lit (.string ⟨#[109, 117, 108]⟩), .lit (.int .i64 2), .lit (.string ⟨#[97, 110, 100]⟩), .lit (.int .i64 2), .lit (.string ⟨#[111, 114]⟩), .lit (.int .i64 2), .lit (.string ⟨#[120, 111, 114]⟩), .lit (.int .i64 2), .lit (.string ⟨#[115, 104, 108]⟩), .lit (.int .i64 2), .lit (.string ⟨#[115, 104, 114]⟩), .lit (.int .i64 2), .lit (.string ⟨#[115, 97, 114]⟩), .lit (.int .i64 2), .lit (.string ⟨#[117, 100, 105, 118]⟩), .lit (.int .i64 2), .lit (.string ⟨#[117, 114, 101, 109]⟩), .lit (.int .i64 2), .lit (.string ⟨#[101, 113]⟩), .lit (.int .i64 2), .lit (.string ⟨#[117, 108, 116]⟩), .lit (.int .i64 2), .lit (.string ⟨#[115, 108, 116]⟩), .lit (.int .i64 2), .lit (.string ⟨#[105, 116, 101]⟩), .lit (.int .i64 3), .lit (.string ⟨#[99, 111, 110, 99, 97, 116]⟩), .lit (.int .i64 2), .lit (.string ⟨#[101, 120, 116, 114, 97, 99, 116]⟩), .lit (.int .i64 1), .lit (.string ⟨#[122, 101, 120, 116]⟩), .lit (.int .i64 1), .lit (.string ⟨#[115, 101, 120, 116]⟩), .lit (.int .i64 1), .lit (.string ⟨#[108, 111, 97, 100]⟩), .lit (.int .i64 1)])]
theorem run (u3 : TypeId) (y3 : Value) (u4 : TypeId) (y4 : Value) : isTrue (Go.Play.start Tryz.prog (gl u3 y3 u4 y4) 10000000 6 [] (.mk .e .nil)) = true := by kernel_rfl
theorem filtered : (Rows.termComposeRow.laid.filter fun x => x.2.handleName?.isNone) = Rows.termComposeRow.laid := by kernel_rfl
theorem gfind_mem {G : Glob} {g : Nat} {cs : List SV} (h : gfind G g = some cs) : (g, cs) ∈ G := by
  induction G with
  | nil => cases h
  | cons p G ih =>
    change gfind2 (Nat.beq p.1 g) p.2 (gfind G g) = some cs at h
    cases hb : Nat.beq p.1 g with
    | true =>
      rw [hb] at h
      obtain ⟨a, b⟩ := p
      have e : a = g := Nat.eq_of_beq_eq_true hb
      cases h
      rw [← e]
      exact List.mem_cons_self ..
    | false => rw [hb] at h; exact List.mem_cons_of_mem _ (ih h)
theorem alive_later (W w : World) (hb : Below W.heap.size W w) (hL : laidMetH Tryz.prog Rows.termComposeRow.laid W) : Calls Tryz.prog 6 #[] w fun e w' => e = .returned (.bool true) ∧ Below w.heap.size w w' := by
  have hm : laidMet Tryz.prog Rows.termComposeRow.laid W := by
    have h1 := (laidMetH_iff.1 hL).1
    rw [filtered] at h1
    exact h1
  have h0 := laid_table (ρ := fun _ => none) hm (List.mem_of_getElem? (show Rows.termComposeRow.laid[0]? = some _ from rfl)) (g := 5) (by kernel_rfl) (t := ((Tryz.prog.globals[5]?).map (·.type)).getD 0) (by kernel_rfl) (k := 8) (vs := [.lit (.int .u8 0), .lit (.int .u8 1), .lit (.int .u8 28), .lit (.int .u8 2), .lit (.int .u8 29), .lit (.int .u8 14), .lit (.int .u8 24), .lit (.int .u8 3), .lit (.int .u8 30), .lit (.int .u8 22), .lit (.int .u8 20), .lit (.int .u8 15), .lit (.int .u8 25), .lit (.int .u8 17), .lit (.int .u8 4), .lit (.int .u8 8), .lit (.int .u8 31), .lit (.int .u8 27), .lit (.int .u8 13), .lit (.int .u8 23), .lit (.int .u8 21), .lit (.int .u8 19), .lit (.int .u8 16), .lit (.int .u8 7), .lit (.int .u8 26), .lit (.int .u8 12), .lit (.int .u8 18), .lit (.int .u8 6), .lit (.int .u8 11), .lit (.int .u8 5), .lit (.int .u8 10), .lit (.int .u8 9)]) (by kernel_rfl)
  have h1 := laid_table (ρ := fun _ => none) hm (List.mem_of_getElem? (show Rows.termComposeRow.laid[1]? = some _ from rfl)) (g := 6) (by kernel_rfl) (t := ((Tryz.prog.globals[6]?).map (·.type)).getD 0) (by kernel_rfl) (k := 8) (vs := [.lit (.int .u8 0), .lit (.int .u8 1), .lit (.int .u8 56), .lit (.int .u8 2), .lit (.int .u8 57), .lit (.int .u8 49), .lit (.int .u8 28), .lit (.int .u8 3), .lit (.int .u8 61), .lit (.int .u8 58), .lit (.int .u8 42), .lit (.int .u8 50), .lit (.int .u8 38), .lit (.int .u8 29), .lit (.int .u8 17), .lit (.int .u8 4), .lit (.int .u8 62), .lit (.int .u8 47), .lit (.int .u8 59), .lit (.int .u8 36), .lit (.int .u8 45), .lit (.int .u8 43), .lit (.int .u8 51), .lit (.int .u8 22), .lit (.int .u8 53), .lit (.int .u8 39), .lit (.int .u8 33), .lit (.int .u8 30), .lit (.int .u8 24), .lit (.int .u8 18), .lit (.int .u8 12), .lit (.int .u8 5), .lit (.int .u8 63), .lit (.int .u8 55), .lit (.int .u8 48), .lit (.int .u8 27), .lit (.int .u8 60), .lit (.int .u8 41), .lit (.int .u8 37), .lit (.int .u8 16), .lit (.int .u8 46), .lit (.int .u8 35), .lit (.int .u8 44), .lit (.int .u8 21), .lit (.int .u8 52), .lit (.int .u8 32), .lit (.int .u8 23), .lit (.int .u8 11), .lit (.int .u8 54), .lit (.int .u8 26), .lit (.int .u8 40), .lit (.int .u8 15), .lit (.int .u8 34), .lit (.int .u8 20), .lit (.int .u8 31), .lit (.int .u8 10), .lit (.int .u8 25), .lit (.int .u8 14), .lit (.int .u8 19), .lit (.int .u8 9), .lit (.int .u8 13), .lit (.int .u8 8), .lit (.int .u8 7), .lit (.int .u8 6)]) (by kernel_rfl)
  have h2 := laid_table (ρ := fun _ => none) hm (List.mem_of_getElem? (show Rows.termComposeRow.laid[2]? = some _ from rfl)) (g := 4) (by kernel_rfl) (t := ((Tryz.prog.globals[4]?).map (·.type)).getD 0) (by kernel_rfl) (k := 8) (vs := [.lit (.int .u64 1), .lit (.int .u64 10), .lit (.int .u64 100), .lit (.int .u64 1000), .lit (.int .u64 10000), .lit (.int .u64 100000), .lit (.int .u64 1000000), .lit (.int .u64 10000000), .lit (.int .u64 100000000), .lit (.int .u64 1000000000), .lit (.int .u64 10000000000), .lit (.int .u64 100000000000), .lit (.int .u64 1000000000000), .lit (.int .u64 10000000000000), .lit (.int .u64 100000000000000), .lit (.int .u64 1000000000000000), .lit (.int .u64 10000000000000000), .lit (.int .u64 100000000000000000), .lit (.int .u64 1000000000000000000), .lit (.int .u64 10000000000000000000)]) (by kernel_rfl)
  obtain ⟨u3, y3, c3, e3, r3, h3, k3⟩ := laid_iface hm (List.mem_of_getElem? (show Rows.termComposeRow.laid[3]? = some _ from rfl)) (g := 3) (by kernel_rfl) (t := ((Tryz.prog.globals[3]?).map (·.type)).getD 0) (by kernel_rfl) (by kernel_rfl)
  obtain ⟨u4, y4, c4, e4, r4, h4, k4⟩ := laid_iface hm (List.mem_of_getElem? (show Rows.termComposeRow.laid[4]? = some _ from rfl)) (g := 2) (by kernel_rfl) (t := ((Tryz.prog.globals[2]?).map (·.type)).getD 0) (by kernel_rfl) (by kernel_rfl)
  have h5 := laid_table (ρ := fun _ => none) hm (List.mem_of_getElem? (show Rows.termComposeRow.laid[5]? = some _ from rfl)) (g := 0) (by kernel_rfl) (t := ((Tryz.prog.globals[0]?).map (·.type)).getD 0) (by kernel_rfl) (k := 8) (vs := [.lit (.string ⟨#[]⟩), .lit (.int .i64 0), .lit (.string ⟨#[]⟩), .lit (.int .i64 0), .lit (.string ⟨#[]⟩), .lit (.int .i64 0), .lit (.string ⟨#[110, 111, 116]⟩), .lit (.int .i64 1), .lit (.string ⟨#[110, 101, 103]⟩), .lit (.int .i64 1), .lit (.string ⟨#[97, 100, 100]⟩), .lit (.int .i64 2), .lit (.string ⟨#[115, 117, 98]⟩), .lit (.int .i64 2), .lit (.string ⟨#[109, 117, 108]⟩), .lit (.int .i64 2), .lit (.string ⟨#[97, 110, 100]⟩), .lit (.int .i64 2), .lit (.string ⟨#[111, 114]⟩), .lit (.int .i64 2), .lit (.string ⟨#[120, 111, 114]⟩), .lit (.int .i64 2), .lit (.string ⟨#[115, 104, 108]⟩), .lit (.int .i64 2), .lit (.string ⟨#[115, 104, 114]⟩), .lit (.int .i64 2), .lit (.string ⟨#[115, 97, 114]⟩), .lit (.int .i64 2), .lit (.string ⟨#[117, 100, 105, 118]⟩), .lit (.int .i64 2), .lit (.string ⟨#[117, 114, 101, 109]⟩), .lit (.int .i64 2), .lit (.string ⟨#[101, 113]⟩), .lit (.int .i64 2), .lit (.string ⟨#[117, 108, 116]⟩), .lit (.int .i64 2), .lit (.string ⟨#[115, 108, 116]⟩), .lit (.int .i64 2), .lit (.string ⟨#[105, 116, 101]⟩), .lit (.int .i64 3), .lit (.string ⟨#[99, 111, 110, 99, 97, 116]⟩), .lit (.int .i64 2), .lit (.string ⟨#[101, 120, 116, 114, 97, 99, 116]⟩), .lit (.int .i64 1), .lit (.string ⟨#[122, 101, 120, 116]⟩), .lit (.int .i64 1), .lit (.string ⟨#[115, 101, 120, 116]⟩), .lit (.int .i64 1), .lit (.string ⟨#[108, 111, 97, 100]⟩), .lit (.int .i64 1)]) (by kernel_rfl)
  refine play_true (run u3 y3 u4 y4) w fun g cs hg => ?_
  suffices hW : ∃ (c : Array Value) (el : TypeId) (fr : Nat × Nat), W.heap[g]? = some (.cells c el fr) ∧ ∀ (i : Nat) (v : SV), cs[i]? = some v → ∃ x : Value, c[i]? = some x ∧ VR (fun _ => none) v x by
    obtain ⟨c, el, fr, q1, q2⟩ := hW
    exact ⟨c, el, fr, (hb.block g (lt_of_at q1)).trans q1, q2⟩
  have hmem := gfind_mem hg
  clear hg
  unfold gl at hmem
  cases hmem with
  | head => exact h0
  | tail _ hmem =>
  cases hmem with
  | head => exact h1
  | tail _ hmem =>
  cases hmem with
  | head => exact h2
  | tail _ hmem =>
  cases hmem with
  | head => exact ⟨c3, e3, r3, h3, fun j v hj => by
      cases j with
      | zero => cases hj; exact ⟨_, k3, .lit _⟩
      | succ j => cases hj⟩
  | tail _ hmem =>
  cases hmem with
  | head => exact ⟨c4, e4, r4, h4, fun j v hj => by
      cases j with
      | zero => cases hj; exact ⟨_, k4, .lit _⟩
      | succ j => cases hj⟩
  | tail _ hmem =>
  cases hmem with
  | head => exact h5
  | tail _ hmem =>
  cases hmem
theorem alive_walk (W : World) (hL : laidMetH Tryz.prog Rows.termComposeRow.laid W) : Calls Tryz.prog 6 #[] W fun e w' => e = .returned (.bool true) ∧ Below W.heap.size W w' := alive_later W W (Below.refl _ _) hL
end Go.Proofs.YthogpmddijbigaaGreatDoor.termCompose
