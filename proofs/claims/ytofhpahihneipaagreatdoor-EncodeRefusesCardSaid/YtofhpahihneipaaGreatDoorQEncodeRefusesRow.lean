import Derived.Test.YtofhpahihneipaaGreatDoorQEncodeRefusesWalk
import Derived.Test.YtofhpahihneipaaGreatDoorGx
import Derived.ShutString
import Derived.Test.YtofhpahihneipaaGreatDoorTie
import Derived.Test.YtofhpahihneipaaGreatDoorCards
import Derived.Test.YtofhpahihneipaaGreatDoorQEncodeRefusesDoor
import Derived.SevenTiedAt
set_option linter.unusedVariables false
set_option linter.unusedSimpArgs false
set_option warningAsError false
open Go.Proofs.Tryz (prog)
namespace Go.Proofs.YtofhpahihneipaaGreatDoor.encodeRefuses
open Go.ChangeShapes Go.WideShapes Go.ChangeAt Go.RowKit
open Go.ChangeMaps (open_string shut_string)
set_option maxRecDepth 100000 in
theorem lifted (os : Os) (started : os.Started) (H : Type) (enc : TypeId × Value -> H) :
 ReturnsInHanded {} Tryz.checked os 5 .any (fun w args => (Rows.encodeRefusesSpec.pre enc prog Tryz.f5 [] false w args /\ laidMetH prog Rows.encodeRefusesRow.laid w) /\ sizedMet enc prog Tryz.f5 (OpenSpec.ofChange Rows.encodeRefusesSpec) false w args) (Rows.encodeRefusesSpec.post enc prog Tryz.f5 false true false false) := by
 refine returnsInHanded_of_change_and (C := Tryz.checked) (X := fun w _ => laidMetH prog Rows.encodeRefusesRow.laid w) (fun _ _ _ hh h => h.of_heap hh) own started (by kernel_rfl) Tryz.func5
  (ChangeSpec.witness_shaped (enc := enc) (C := Tryz.checked) (os := os) (X := fun w _ => laidMetH prog Rows.encodeRefusesRow.laid w) false (World.doorLaid prog 38 os) #[.agg #[.string ⟨#[]⟩, .int .i64 0, .int .i64 0, .slice none 0 0, .slice none 0 0, .slice none 0 0, .slice none 0 0], .int .u64 0] 8 rfl (door_shaped os _) (by kernel_rfl) (by kernel_rfl) (by kernel_rfl) (door_met os _)) ?_
 intro W base args ds gs before hval0 hW _ _ hL _;have hval : ∀ (j : Nat) t v, Tryz.f5.params[j]? = some t -> args[j]? = some v -> Value.okWide prog W .any base t v := hval0;have hW' := hW;obtain ⟨p, q, hA0, hV, rfl, hfz, hnd⟩ := hW;have hA : DataW.TrodAll enc prog W 0 (fun _ => true) true Tryz.f5.params.toList args.toList ds p := hA0;rw [Tryz.params5] at hA hval;obtain ⟨v0, vs0, d0, ds0, p0, q0, hargs, rfl, rfl, h0, r0⟩ := trodAll_cons hA;obtain ⟨v1, vs1, d1, ds1, p1, q1, rfl, rfl, rfl, h1, r1⟩ := trodAll_cons r0;obtain ⟨rfl, rfl, rfl⟩ := trodAll_nil r1;obtain rfl : args = #[v0, v1] := by cases args; simp_all
 obtain ⟨rfl, rfl⟩ := trodVars_none hV;have ok0 := hval 0 27 v0 rfl rfl;obtain ⟨a1, rfl, rfl, rfl, w1⟩ := Go.ChangeShapes.open_int Tryz.underlying31 (hval 1 31 v1 rfl rfl) h1;clear hA0 hval0;simp only [List.append_nil] at hW';refine (walk v0 a1 ok0 h0 w1 hL).mono fun e W' ⟨he, hg⟩ => ?_;subst he;exact ⟨_, rfl, zdc hW' hg (fun _ _ _ => (trodAll_cons_mk (shut_bool Tryz.underlying4 _) trodAll_mk0)) (trodAll_cons_mk (Below.trod (by kernel_rfl) (by kernel_rfl) (of_decide_eq_true (by kernel_rfl)) h0 hg (fun x hx => hW'.lt x (by simp [hx]))) (trodAll_cons_mk (shut_int Tryz.underlying31 w1) trodAll_mk0)) (fun _ => rfl)⟩
theorem over : Rows.encodeRefusesRow.holds Tryz.pinned (OpenSpec.ofChange Rows.encodeRefusesSpec) :=
 OpenClaim.holds_of_wide 5 Tryz.f5 rfl rfl rfl rfl rfl rfl rfl ⟨rfl, rfl, rfl, rfl, rfl⟩ rfl rfl rfl rfl rfl (by kernel_rfl) Tryz.func5 (by kernel_rfl)
  (of_decide_eq_true (by kernel_rfl)) (by unfold Func.isWrapper; first | (rw [if_pos (by decide +kernel)]; kernel_rfl) | (rw [if_neg (by decide +kernel)]; exact ⟨rfl, rfl⟩))
  (fun os started H enc _ => lifted os started H enc)
theorem proved : Rows.EncodeRefusesCardSaid :=
 Claim7.holds_tied_plain_at .later [] [.data] true _ false
  over (fun _ h => by cases h) (by kernel_rfl) (fun _ h => by cases h) encodeRefuses_row_tie rfl ⟨rfl, rfl⟩ (by kernel_rfl) rfl
  (fun f fn hf hfn => by
    obtain rfl : f = 5 := Option.some.inj ((show prog.funcNamed "retarget/retargetlaw12.EncodeRefuses" = some 5 by kernel_rfl).symm.trans hf) |>.symm;obtain rfl : fn = Tryz.f5 := (Option.some.inj (Tryz.func5.symm.trans hfn)).symm;exact ⟨by kernel_rfl,  fun j t ht => by rw [Tryz.params5] at ht;have hm : t ∈ (#[27, 31] : Array TypeId) := Array.mem_of_getElem? ht;have hall : ([27, 31].all fun u => !prog.wantsStandIn u) = true := (by kernel_rfl);have hm2 : t ∈ ([27, 31] : List TypeId) := (by simp at hm ⊢; omega);have := List.all_eq_true.1 hall t hm2;exact (show prog.wantsStandIn t = false by simpa using this)⟩)
  (by kernel_rfl)
end Go.Proofs.YtofhpahihneipaaGreatDoor.encodeRefuses
