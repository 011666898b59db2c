/- Play: the operations: iterators, assertions, calls. -/
import Derived.Test.YteoegpkfdbcklaaGreatDoorPlayM
namespace Go.Play
set_option linter.unusedVariables false
set_option linter.unusedSimpArgs false
section
variable {P : Program} {G : Glob} {M : Nat → Prop} {ρ : Env} {h : H} {w : World}

theorem ValOK.new (s : Sim P G M ρ h w) {so : SO} {ob : Obj} {V : SV} {f : Nat → Value} {r : Result Value}
    (hr : r = .ok (f w.heap.size) { w with heap := w.heap.push ob }) (hob : ∀ ρ' : Env, Env.le ρ ρ' → OR P ρ' so ⟨w.heap.size, 0, 0, 0⟩ (some ob))
    (hV : ∀ ρ' : Env, ρ' (nOf h) = some ⟨w.heap.size, 0, 0, 0⟩ → VR ρ' V (f w.heap.size)) :
    ValOK P G M ρ h w r (.val V (hpush h so)) := by
  let b : Loc := ⟨w.heap.size, 0, 0, 0⟩
  have hle : Env.le ρ (ρ.put (nOf h) b) := Env.put_le b s.none_at
  obtain ⟨hs, hg⟩ := s.alloc (b := b) (ob := so) (obj := ob) rfl (hob _ hle)
  exact ⟨_, _, _, hr, hV _ (Env.put_self _ _ _), hs, hg⟩
theorem range_ok (s : Sim P G M ρ h w) (ty : TypeId) {x : SV} {y : Value} (hx : VR ρ x y) : ValOK P G M ρ h w ((Instr.range ty y).run P w) (range1 P h ty x) := by
  unfold range1
  split
  · rename_i str
    cases hx
    refine ifB_ok (Q := ValOK P G M ρ h w _) .bad fun hs => ?_
    rw [newE_eq]
    have hu := isStr_some hs
    refine .new s (f := fun r => .pointer (some ⟨r, 0, none⟩)) (ob := .stringIter str 0) ?_ (fun ρ' _ => .sit rfl) fun ρ' hρ => .ptr (b := ⟨w.heap.size, 0, 0, 0⟩) 0 hρ
    simp only [Instr.range, Sem.run_bind, run_und hu, Result.andThen_ok, Sem.run_pure, run_newObj]
  · cases hx
    refine ifB_ok (Q := ValOK P G M ρ h w _) .bad fun hs => ?_
    rw [newE_eq]
    obtain ⟨_, _, hu⟩ := isMap_some hs
    refine .new s (f := fun r => .pointer (some ⟨r, 0, none⟩)) (ob := .mapIter none 0 #[] 0) ?_ (fun ρ' _ => .mitN rfl) fun ρ' hρ => .ptr (b := ⟨w.heap.size, 0, 0, 0⟩) 0 hρ
    simp only [Instr.range, Sem.run_bind, run_und hu, Result.andThen_ok, Sem.run_pure, run_newObj]
  · rename_i o
    cases hx with
    | @mapv _ b hb =>
      cases ho : hget h o with
      | mapo es c own =>
        simp only []
        refine ifB_ok (Q := ValOK P G M ρ h w _) .bad fun hs => ?_
        rw [newE_eq]
        obtain ⟨_, _, hu⟩ := isMap_some hs
        obtain ⟨xs, hk, her⟩ := obj_map s hb ho
        refine .new s (f := fun r => .pointer (some ⟨r, 0, none⟩)) (ob := .mapIter (some b.block) c #[] c) ?_ (fun ρ' hle => .mitS rfl (hle _ _ hb)) fun ρ' hρ => .ptr (b := ⟨w.heap.size, 0, 0, 0⟩) 0 hρ
        simp only [Instr.range, Sem.run_bind, run_und hu, Result.andThen_ok, Sem.run_pure, run_newObj, run_getMap hk]
      | _ => exact .bad
  · exact .bad
theorem obj_sit (s : Sim P G M ρ h w) {o : Pa} {b : Loc} {str : ByteArray} {pos : Nat} (hb : ρ o = some b) (ho : hget h o = .sit str pos) : w.heap[b.block]? = some (.stringIter str pos) ∧ b.off = 0 := by
  have hlive := s.live o b hb
  rw [ho] at hlive
  cases hk : w.heap[b.block]? with
  | none => rw [hk] at hlive; cases hlive
  | some ob => rw [hk] at hlive; cases hlive with | sit h => exact ⟨rfl, h⟩
theorem obj_mitN (s : Sim P G M ρ h w) {o : Pa} {b : Loc} {since st : Nat} {seen : List Nat} (hb : ρ o = some b) (ho : hget h o = .mit none since seen st) : w.heap[b.block]? = some (.mapIter none since seen.toArray st) ∧ b.off = 0 := by
  have hlive := s.live o b hb
  rw [ho] at hlive
  cases hk : w.heap[b.block]? with
  | none => rw [hk] at hlive; cases hlive
  | some ob => rw [hk] at hlive; cases hlive with | mitN h => exact ⟨rfl, h⟩
theorem obj_mitS (s : Sim P G M ρ h w) {o m : Pa} {b : Loc} {since st : Nat} {seen : List Nat} (hb : ρ o = some b) (ho : hget h o = .mit (some m) since seen st) : ∃ bm, ρ m = some bm ∧ w.heap[b.block]? = some (.mapIter (some bm.block) since seen.toArray st) ∧ b.off = 0 := by
  have hlive := s.live o b hb
  rw [ho] at hlive
  cases hk : w.heap[b.block]? with
  | none => rw [hk] at hlive; cases hlive
  | some ob => rw [hk] at hlive; cases hlive with | mitS h hm => exact ⟨_, hm, rfl, h⟩
theorem run_getIter {r : Nat} {ob : Obj} (hk : w.heap[r]? = some ob) (hn : ∀ c e f, ob ≠ .cells c e f) : (getObj r).run P w = .ok ob w := by
  cases ob <;> first | (exact absurd rfl (hn _ _ _)) | simp [getObj, Sem.run, hk]
theorem run_setIter {r : Nat} {ob nb : Obj} (hk : w.heap[r]? = some ob) (hn : ∀ c e f, ob ≠ .cells c e f) : (setObj r nb).run P w = .ok () { w with heap := w.heap.setIfInBounds r nb } := by
  cases ob <;> first | (exact absurd rfl (hn _ _ _)) | simp [setObj, Sem.run, hk]
theorem next_ok (s : Sim P G M ρ h w) {it : SV} {y : Value} (hx : VR ρ it y) (isS : Bool) (ty : TypeId) : ValOK P G M ρ h w ((Instr.next y isS ty).run P w) (next1 h it isS) := by
  unfold next1
  split
  · rename_i i
    cases hx with
    | @ptr _ b _ hb =>
      split
      · rename_i str pos ho
        obtain ⟨hk, h0⟩ := obj_sit s hb ho
        rw [h0]
        have hg := run_getIter (P := P) hk (by intros; simp)
        split
        · rename_i hlt
          have hlt : pos < str.size := Nat.le_of_ble_eq_true hlt
          rw [putE_eq]
          have ht := turn_setMap (nb := .stringIter str (pos + (Utf8.decode str pos).2)) hk
          obtain ⟨s2, g2⟩ := s.put (ob := .sit str (Nat.add pos (Utf8.decode str pos).2)) hb (by rw [ho]; rfl) ht.os ht.tape ht.output ht.size ht.other (by rw [ht.here]; exact .sit h0)
          refine ⟨ρ, _, .tuple #[.bool true, goInt pos, .int .i32 (Utf8.decode str pos).1], ?_, .lit _, s2, g2⟩
          simp only [Instr.next, Sem.run_bind, hg, Result.andThen_ok, hlt, if_true, Sem.run_pure, run_setIter hk (by intros; simp)]
        · rename_i hlt
          have hlt : ¬ pos < str.size := fun e => by rw [Nat.ble_eq_true_of_le (show Nat.succ pos ≤ str.size from e)] at hlt; cases hlt
          refine .quiet s (x := .tuple #[.bool false]) ?_ (.lit _)
          simp only [Instr.next, Sem.run_bind, hg, Result.andThen_ok, hlt, if_false, Sem.run_pure]
      · rename_i since seen st ho
        obtain ⟨hk, h0⟩ := obj_mitN s hb ho
        rw [h0]
        have hg := run_getIter (P := P) hk (by intros; simp)
        refine .quiet s (x := .tuple #[.bool false]) ?_ (.lit _)
        simp only [Instr.next, Sem.run_bind, hg, Result.andThen_ok, Sem.run_pure]
      · rename_i m since seen st ho
        obtain ⟨bm, hbm, hk, h0⟩ := obj_mitS s hb ho
        rw [h0]
        have hg := run_getIter (P := P) hk (by intros; simp)
        unfold nextM
        split
        · rename_i es clock own hm
          obtain ⟨xs, hkm, her⟩ := obj_map s hbm hm
          obtain ⟨ms⟩ := xs
          have hgm := run_getMap (P := P) hkm
          split
          · cases her
            refine .quiet s (x := .tuple #[.bool false]) ?_ (.lit _)
            simp [Instr.next, Sem.run_bind, hg, hgm, Result.andThen_ok, Sem.run_pure, run_choose, Question.forced]
          · rename_i k v bn
            simp only at her
            obtain ⟨e, rfl, hv, hky, rfl⟩ : ∃ e : MapEntry, ms = [e] ∧ VR ρ v e.val ∧ VR ρ k e.key ∧ e.born = bn := by
              cases her with | cons hk hv t => cases t; exact ⟨_, rfl, hv, hk, rfl⟩
            split
            · rename_i hlt
              have hlt : e.born < since := Nat.le_of_ble_eq_true hlt
              have hng : ¬ since ≤ e.born := by omega
              rw [putE_eq]
              have ht := turn_setMap (nb := .mapIter (some bm.block) since #[e.born] clock) hk
              obtain ⟨s2, g2⟩ := s.put (ob := .mit (some m) since [e.born] clock) hb (by rw [ho]; rfl) ht.os ht.tape ht.output ht.size ht.other (by rw [ht.here]; exact .mitS h0 hbm)
              refine ⟨ρ, _, .tuple #[.bool true, e.key, e.val], ?_, .tup (.cons (.lit _) (.cons hky (.cons hv .nil))), s2, g2⟩
              simp [Instr.next, Sem.run_bind, hg, hgm, Result.andThen_ok, Sem.run_pure, run_choose, Question.forced, hlt, hng, run_setIter hk (by intros; simp)]
            · exact .bad
          · rename_i b' k v bn
            simp only at her
            obtain ⟨e, rfl, hv, hky, rfl⟩ : ∃ e : MapEntry, ms = [e] ∧ VR ρ v e.val ∧ VR ρ k e.key ∧ e.born = bn := by
              cases her with | cons hk hv t => cases t; exact ⟨_, rfl, hv, hk, rfl⟩
            split
            · rename_i h1 h2
              obtain rfl : e.born = b' := Nat.eq_of_beq_eq_true h1
              have hlt : e.born < st := Nat.le_of_ble_eq_true h2
              have hng : ¬ st ≤ e.born := by omega
              refine .quiet s (x := .tuple #[.bool false]) ?_ (.lit _)
              simp [Instr.next, Sem.run_bind, hg, hgm, Result.andThen_ok, Sem.run_pure, run_choose, Question.forced, hlt, hng]
            · exact .bad
          · exact .bad
        · exact .bad
      · exact .bad
  · exact .bad
theorem entry_ok (s : Sim P G M ρ h w) {it : SV} {y : Value} (hx : VR ρ it y) : ValOK P G M ρ h w ((Instr.entry y).run P w) (entry1 h it) := by
  unfold entry1
  split
  · rename_i i
    cases hx with
    | @ptr _ b _ hb =>
      split
      · rename_i m since b' st ho
        obtain ⟨bm, hbm, hk, h0⟩ := obj_mitS s hb ho
        rw [h0]
        have hg := run_getIter (P := P) hk (by intros; simp)
        unfold entryM
        split
        · rename_i k v bn c own hm
          obtain ⟨xs, hkm, her⟩ := obj_map s hbm hm
          obtain ⟨ms⟩ := xs
          have hgm := run_getMap (P := P) hkm
          simp only at her
          obtain ⟨e, rfl, hv, hky, rfl⟩ : ∃ e : MapEntry, ms = [e] ∧ VR ρ v e.val ∧ VR ρ k e.key ∧ e.born = bn := by
            cases her with | cons hk hv t => cases t; exact ⟨_, rfl, hv, hk, rfl⟩
          split
          · rename_i h1 h2
            obtain rfl : c = st := Nat.eq_of_beq_eq_true h1
            obtain rfl : e.born = b' := Nat.eq_of_beq_eq_true h2
            refine .quiet s (x := .tuple #[e.key, e.val]) ?_ (.tup (.cons hky (.cons hv .nil)))
            simp [Instr.entry, Sem.run_bind, hg, hgm, Result.andThen_ok, Sem.run_pure]
          · exact .bad
        · exact .bad
      · exact .bad
  · exact .bad
theorem typeAssert_ok (s : Sim P G M ρ h w) {x : SV} {y : Value} (hx : VR ρ x y) (xT a : TypeId) (ok : Bool) : ValOK P G M ρ h w ((Instr.typeAssert y xT a ok).run P w) (typeAssert1 P h a ok x) := by
  unfold typeAssert1
  refine ifB_ok (Q := ValOK P G M ρ h w _) .bad fun hc => ?_
  obtain ⟨d, hd, hne⟩ := concrete_some hc
  have key : ∀ (t : TypeId) (v : SV) (z : Value), VR ρ v z → ValOK P G M ρ h w ((Instr.typeAssert (.iface t z) xT a ok).run P w) (assertOk (Nat.beq t a) ok v h) := by
    intro t v z hv
    cases hb : Nat.beq t a with
    | false => exact .bad
    | true =>
      obtain rfl : t = a := Nat.eq_of_beq_eq_true hb
      refine .quiet s (x := if ok then .tuple #[z, .bool true] else z) ?_ (okTup_rel ok hv true)
      simp only [Instr.typeAssert, Sem.run_bind, run_und hd, Result.andThen_ok]
      cases d <;> first | exact absurd rfl (hne _) | simp only [if_true, Sem.run_pure]
  split
  · cases hx with | ifc t hv => exact key _ _ _ hv
  · cases hx; exact key _ _ _ (.lit _)
  · exact .bad
end
end Go.Play
