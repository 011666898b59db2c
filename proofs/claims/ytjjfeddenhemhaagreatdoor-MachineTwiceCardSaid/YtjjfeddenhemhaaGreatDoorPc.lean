import Derived.Test.YtjjfeddenhemhaaGreatDoorGe
import Derived.Test.YtjjfeddenhemhaaGreatDoorPb
namespace Go.Proofs.YtjjfeddenhemhaaGreatDoor
open Go.RowKit
set_option linter.unusedVariables false
set_option linter.unusedSimpArgs false
set_option maxRecDepth 100000
def dI : Play.SV → Option Int
 | .lit (.int .i64 z) => if -9223372036854775808 ≤ z ∧ z ≤ 9223372036854775807 then some z else none
 | _ => none
def d8 : Play.SV → Option Nat
 | .lit (.int .u8 (.ofNat n)) => if n < 256 then some n else none
 | _ => none
def d64 : Play.SV → Option Nat
 | .lit (.int .u64 (.ofNat n)) => if n < 18446744073709551616 then some n else none
 | _ => none
def dS : Play.SV → Option ByteArray
 | .lit (.string s) => if s.size ≤ 1000 then some s else none
 | _ => none
def zrt {α : Type} (n : Nat) (d : List Play.SV → Option α) : Nat → List Play.SV → Option (List α)
 | 0, _ => some []
 | k + 1, vs => match d (vs.take n), zrt n d k (vs.drop n) with | some a, some l => some (a :: l) | _, _ => none
def zwf {α : Type} (n : Nat) (d : List Play.SV → Option α) (off len : Nat) : Play.SO → Option (List α)
 | .cells vs _ _ => zrt n d len (vs.drop off)
 | _ => none
noncomputable def z37 {α : Type} (n : Nat) (d : List Play.SV → Option α) (h : Play.H) : Play.SV → Option (List α)
 | .lit (.slice none 0 0) => some []
 | .slc o off len cap ex => if len ≤ cap ∧ cap ≤ 1000000 then zwf n d off len (Play.hget h o) else none
 | _ => none
section
variable {P : Program} {G : Play.Glob} {M : Nat → Prop} {ρ : Play.Env} {h : Play.H} {w : World}
theorem z3v {v : Play.SV} {x : Value} {z : Int} (hd : dI v = some z) (hv : Play.VR ρ v x) : x = .int .i64 z ∧ -9223372036854775808 ≤ z ∧ z ≤ 9223372036854775807 := by
 unfold dI at hd
 split at hd
 ·cases hv
  split at hd
  ·cases hd; exact ⟨rfl, by assumption⟩
  ·cases hd
 ·cases hd
theorem zuw {v : Play.SV} {x : Value} {z : Nat} (hd : d8 v = some z) (hv : Play.VR ρ v x) : x = .int .u8 (z : Nat) ∧ z < 256 := by
 unfold d8 at hd
 split at hd
 ·cases hv
  split at hd
  ·cases hd; exact ⟨rfl, by assumption⟩
  ·cases hd
 ·cases hd
theorem zny {v : Play.SV} {x : Value} {z : Nat} (hd : d64 v = some z) (hv : Play.VR ρ v x) : x = .int .u64 (z : Nat) ∧ z < 18446744073709551616 := by
 unfold d64 at hd
 split at hd
 ·cases hv
  split at hd
  ·cases hd; exact ⟨rfl, by assumption⟩
  ·cases hd
 ·cases hd
theorem zgx {v : Play.SV} {x : Value} {z : ByteArray} (hd : dS v = some z) (hv : Play.VR ρ v x) : x = .string z ∧ z.size ≤ maxLen := by
 unfold dS at hd
 split at hd
 ·cases hv
  split at hd
  ·cases hd; exact ⟨rfl, by unfold maxLen; omega⟩
  ·cases hd
 ·cases hd
theorem zlb {α : Type} {n : Nat} {d : List Play.SV → Option α} : ∀ (k : Nat) {vs : List Play.SV} {L : List α}, zrt n d k vs = some L → L.length = k ∧ ∀ (i : Nat) (x : α), L[i]? = some x → d ((vs.drop (i * n)).take n) = some x := by
 intro k
 induction k with
 | zero => intro vs L hL; cases hL; exact ⟨rfl, fun i x hx => by simp at hx⟩
 | succ k ih =>
   intro vs L hL
   unfold zrt at hL
   split at hL
   ·rename_i a l ha hl
    cases hL
    obtain ⟨h1, h2⟩ := ih hl
    refine ⟨by simp [h1], fun i x hx => ?_⟩
    cases i with
    | zero => simp at hx; subst hx; simpa using ha
    | succ i =>
      have := h2 i x (by simpa using hx)
      rw [List.drop_drop] at this
      rw [show (i + 1) * n = n + i * n by rw [Nat.add_mul]; omega]
      exact this
   ·cases hL
theorem z21 {α : Type} {n : Nat} {d : List Play.SV → Option α} {E : World → List Value → α → Prop} (s : Play.Sim P G M ρ h w)
 (hd : ∀ (cs : List Play.SV) (x : α) (vals : List Value), d cs = some x → Play.VRL ρ cs vals → cs.length = n ∧ E w vals x) {v : Play.SV} {val : Value} {L : List α} (hv : Play.VR ρ v val) (hL : z37 n d h v = some L) : zd n E w val L := by
 unfold z37 at hL
 split at hL
 ·cases hv
  cases hL
  exact ⟨none, 0, rfl, by simp, by simp, by simp, fun i x hx => by simp at hx⟩
 ·rename_i o off len cap ex
  split at hL
  ·rename_i hlc
   cases hv with
   | @slc _ b _ _ _ _ cap' hb hc he hr =>
     have hlive := s.live o b hb
     have hsz := s.size o b hb
     unfold zwf at hL
     split at hL
     ·rename_i vs e own hob
      rw [hob] at hlive
      generalize hk : w.heap[b.block]? = ob at hlive
      cases hlive with
      | @cells _ _ _ _ c fr hs hm hf hroom hlen hvs =>
        obtain ⟨hl1, hl2⟩ := zlb len hL
        have hcm : cap' ≤ maxLen := by
         cases ex with
         | true => rw [he rfl]; unfold maxLen; omega
         | false => exact (hr rfl).2
        have hcell : ∀ q : Nat, w.cell? ⟨b.block, q, none⟩ = c[q]? := fun q => by simp [World.cell?, hk]
        refine ⟨some ⟨b.block, b.off + off, none⟩, cap', by rw [hl1], by rw [hl1]; unfold maxLen at *; omega, by rw [hl1]; omega, hcm, fun i x hx => ?_⟩
        have hdx := hl2 i x hx
        rw [List.drop_drop] at hdx
        have hget : ∀ (j : Nat) (v : Play.SV), ((vs.drop (off + i * n)).take n)[j]? = some v → ∃ y, c[b.off + off + i * n + j]? = some y ∧ Play.VR ρ v y := by
         intro j v hj
         rw [List.getElem?_take] at hj
         split at hj
         ·rw [List.getElem?_drop] at hj
          obtain ⟨y, h1, h2⟩ := hvs _ _ hj
          exact ⟨y, by rw [← h1]; congr 1; omega, h2⟩
         ·cases hj
        have hrel : Play.VRL ρ ((vs.drop (off + i * n)).take n) ((List.range ((vs.drop (off + i * n)).take n).length).map fun j => (c[b.off + off + i * n + j]?).getD (.int .i64 0)) := by
         refine Play.VRL.of_get (by simp) fun j v hj => ?_
         obtain ⟨y, h1, h2⟩ := hget j v hj
         have hlt : j < ((vs.drop (off + i * n)).take n).length := by
          rcases Nat.lt_or_ge j ((vs.drop (off + i * n)).take n).length with h3 | h3
          ·exact h3
          ·rw [List.getElem?_eq_none h3] at hj; cases hj
         refine ⟨y, ?_, h2⟩
         rw [List.getElem?_map, List.getElem?_range hlt, Option.map_some, h1, Option.getD_some]
        obtain ⟨hn, hE⟩ := hd _ x _ hdx hrel
        refine ⟨b.block, b.off + off, _, rfl, hsz, by simp only [List.length_map, List.length_range]; exact hn, fun j u hj => ?_, hE⟩
        rw [List.getElem?_map] at hj
        have hlt : j < ((vs.drop (off + i * n)).take n).length := by
         rcases Nat.lt_or_ge j ((vs.drop (off + i * n)).take n).length with h3 | h3
         ·exact h3
         ·rw [List.getElem?_eq_none (by simpa using h3)] at hj; cases hj
        rw [List.getElem?_range hlt, Option.map_some] at hj
        obtain ⟨y, h1, _⟩ := hget j _ (List.getElem?_eq_getElem hlt)
        rw [hcell, h1]
        rw [h1] at hj
        exact hj
     ·cases hL
  ·cases hL
 ·cases hL
theorem ztj {v : Value} {L : List Tm} (hR : zd 6 zjd w v L) : SubAt w w.heap.size v L := by
 obtain ⟨A, c, rfl, h2, h3, h4, h5⟩ := hR
 have hq : ∀ (i : Nat) (t : Tm), L[i]? = some t → ∃ b o sv, A = some ⟨b, o, none⟩ ∧ b < w.heap.size ∧ (∀ (j : Nat) (u : Value), (Tm.cells t sv)[j]? = some u → w.cell? ⟨b, o + i * 6 + j, none⟩ = some u) ∧ t.fit ∧ SubAt w w.heap.size sv t.sub := by
  intro i t hi
  obtain ⟨b, o, cs, q1, q2, q3, q4, sv, q5, q6, q7⟩ := h5 i t hi
  subst q5
  exact ⟨b, o, sv, q1, q2, q4, q6, q7⟩
 refine .mk A L.length c L (fun i => (A.bind fun a => w.cell? ⟨a.block, a.off + i * 6 + 5, none⟩).getD (.int .i64 0)) rfl h2 (fun i t hi => ?_) (fun i t hi => ?_) (fun i t hi => ?_)
 ·obtain ⟨_, _, _, _, _, _, h, _⟩ := hq i t hi; exact h
 ·obtain ⟨b, o, sv, q1, q2, q4, q6, q7⟩ := hq i t hi
  refine ⟨b, o, q1, q2, by simpa using q4 0 _ rfl, q4 1 _ rfl, q4 2 _ rfl, q4 3 _ rfl, q4 4 _ rfl, ?_⟩
  have hc5 := q4 5 _ rfl
  subst q1
  show _ = some ((w.cell? ⟨b, o + i * 6 + 5, none⟩).getD (.int .i64 0))
  rw [hc5]; rfl
 ·obtain ⟨b, o, sv, q1, q2, q4, q6, q7⟩ := hq i t hi
  have hc5 := q4 5 _ rfl
  subst q1
  show SubAt _ _ ((w.cell? ⟨b, o + i * 6 + 5, none⟩).getD (.int .i64 0)) _
  rw [hc5]; exact q7
noncomputable def zh2 : Nat → Play.H → List Play.SV → Option Tm
 | 0, _, _ => none
 | k + 1, h, [a, b, c, d, e, f] => (d8 a).bind fun a => (dI b).bind fun b => (d64 c).bind fun c => (dS d).bind fun d => (dI e).bind fun e => (z37 6 (zh2 k h) h f).bind fun f => some (.mk a b c d e f)
 | _ + 1, _, _ => none
theorem vrl6 {cs : List Play.SV} {vals : List Value} {a b c d e f : Play.SV} (hv : Play.VRL ρ [a, b, c, d, e, f] vals) : ∃ a' b' c' d' e' f', vals = [a', b', c', d', e', f'] ∧ Play.VR ρ a a' ∧ Play.VR ρ b b' ∧ Play.VR ρ c c' ∧ Play.VR ρ d d' ∧ Play.VR ρ e e' ∧ Play.VR ρ f f' := by
 cases hv with | cons h0 hv => cases hv with | cons h1 hv => cases hv with | cons h2 hv => cases hv with | cons h3 hv => cases hv with | cons h4 hv => cases hv with | cons h5 hv => cases hv with | nil => exact ⟨_, _, _, _, _, _, rfl, h0, h1, h2, h3, h4, h5⟩
theorem zbf (s : Play.Sim P G M ρ h w) : ∀ (k : Nat) (cs : List Play.SV) (t : Tm) (vals : List Value), zh2 k h cs = some t → Play.VRL ρ cs vals → cs.length = 6 ∧ zjd w vals t := by
 intro k
 induction k with
 | zero => intro cs t vals hd; unfold zh2 at hd; cases hd
 | succ k ih =>
   intro cs t vals hd hv
   unfold zh2 at hd
   split at hd
   ·cases ‹_ + 1 = 0›
   ·rename_i kk a b c d e f hk
    cases hk
    simp only [Option.bind_eq_some_iff] at hd
    obtain ⟨a', ha, b', hb, c', hc, d', hd', e', he, f', hf, hd⟩ := hd
    cases hd
    obtain ⟨xa, xb, xc, xd, xe, xf, rfl, va, vb, vc, vd, ve, vf⟩ := vrl6 (cs := []) hv
    obtain ⟨rfl, a1⟩ := zuw ha va
    obtain ⟨rfl, b1⟩ := z3v hb vb
    obtain ⟨rfl, c1⟩ := zny hc vc
    obtain ⟨rfl, d1⟩ := zgx hd' vd
    obtain ⟨rfl, e1⟩ := z3v he ve
    exact ⟨rfl, xf, rfl, ⟨a1, b1, c1, d1, e1⟩, ztj (z21 s ih vf hf)⟩
   ·cases hd
end
section
variable {P : Program} {G : Play.Glob} {M : Nat → Prop} {ρ : Play.Env} {h : Play.H} {w : World}
theorem vrl1' {vals : List Value} {a0 : Play.SV} (hv : Play.VRL ρ [a0] vals) : ∃ a0', vals = [a0'] ∧ Play.VR ρ a0 a0' := by
 cases hv with | cons h0 hv => cases hv with | nil => exact ⟨_, rfl, h0⟩
theorem vrl2' {vals : List Value} {a0 a1 : Play.SV} (hv : Play.VRL ρ [a0, a1] vals) : ∃ a0' a1', vals = [a0', a1'] ∧ Play.VR ρ a0 a0' ∧ Play.VR ρ a1 a1' := by
 cases hv with | cons h0 hv => cases hv with | cons h1 hv => cases hv with | nil => exact ⟨_, _, rfl, h0, h1⟩
theorem vrl4' {vals : List Value} {a0 a1 a2 a3 : Play.SV} (hv : Play.VRL ρ [a0, a1, a2, a3] vals) : ∃ a0' a1' a2' a3', vals = [a0', a1', a2', a3'] ∧ Play.VR ρ a0 a0' ∧ Play.VR ρ a1 a1' ∧ Play.VR ρ a2 a2' ∧ Play.VR ρ a3 a3' := by
 cases hv with | cons h0 hv => cases hv with | cons h1 hv => cases hv with | cons h2 hv => cases hv with | cons h3 hv => cases hv with | nil => exact ⟨_, _, _, _, rfl, h0, h1, h2, h3⟩
theorem vrl7' {vals : List Value} {a0 a1 a2 a3 a4 a5 a6 : Play.SV} (hv : Play.VRL ρ [a0, a1, a2, a3, a4, a5, a6] vals) : ∃ a0' a1' a2' a3' a4' a5' a6', vals = [a0', a1', a2', a3', a4', a5', a6'] ∧ Play.VR ρ a0 a0' ∧ Play.VR ρ a1 a1' ∧ Play.VR ρ a2 a2' ∧ Play.VR ρ a3 a3' ∧ Play.VR ρ a4 a4' ∧ Play.VR ρ a5 a5' ∧ Play.VR ρ a6 a6' := by
 cases hv with | cons h0 hv => cases hv with | cons h1 hv => cases hv with | cons h2 hv => cases hv with | cons h3 hv => cases hv with | cons h4 hv => cases hv with | cons h5 hv => cases hv with | cons h6 hv => cases hv with | nil => exact ⟨_, _, _, _, _, _, _, rfl, h0, h1, h2, h3, h4, h5, h6⟩
theorem vrl9' {vals : List Value} {a0 a1 a2 a3 a4 a5 a6 a7 a8 : Play.SV} (hv : Play.VRL ρ [a0, a1, a2, a3, a4, a5, a6, a7, a8] vals) : ∃ a0' a1' a2' a3' a4' a5' a6' a7' a8', vals = [a0', a1', a2', a3', a4', a5', a6', a7', a8'] ∧ Play.VR ρ a0 a0' ∧ Play.VR ρ a1 a1' ∧ Play.VR ρ a2 a2' ∧ Play.VR ρ a3 a3' ∧ Play.VR ρ a4 a4' ∧ Play.VR ρ a5 a5' ∧ Play.VR ρ a6 a6' ∧ Play.VR ρ a7 a7' ∧ Play.VR ρ a8 a8' := by
 cases hv with | cons h0 hv => cases hv with | cons h1 hv => cases hv with | cons h2 hv => cases hv with | cons h3 hv => cases hv with | cons h4 hv => cases hv with | cons h5 hv => cases hv with | cons h6 hv => cases hv with | cons h7 hv => cases hv with | cons h8 hv => cases hv with | nil => exact ⟨_, _, _, _, _, _, _, _, _, rfl, h0, h1, h2, h3, h4, h5, h6, h7, h8⟩
theorem vrl6' {vals : List Value} {a0 a1 a2 a3 a4 a5 : Play.SV} (hv : Play.VRL ρ [a0, a1, a2, a3, a4, a5] vals) : ∃ a0' a1' a2' a3' a4' a5', vals = [a0', a1', a2', a3', a4', a5'] ∧ Play.VR ρ a0 a0' ∧ Play.VR ρ a1 a1' ∧ Play.VR ρ a2 a2' ∧ Play.VR ρ a3 a3' ∧ Play.VR ρ a4 a4' ∧ Play.VR ρ a5 a5' := vrl6 (cs := []) hv
def zo3 : List Play.SV → Option Int
 | [a] => dI a
 | _ => none
theorem zo4 (cs : List Play.SV) (x : Int) (vals : List Value) (hd : zo3 cs = some x) (hv : Play.VRL ρ cs vals) : cs.length = 1 ∧ intE w vals x := by
 unfold zo3 at hd
 split at hd
 ·obtain ⟨x0, rfl, h0⟩ := vrl1' hv
  obtain ⟨rfl, b0⟩ := z3v hd h0
  exact ⟨rfl, rfl, b0⟩
 ·cases hd
def zo5 : List Play.SV → Option MReg
 | [c0, c1, c2, c3] => (dS c0).bind fun x0 => (dI c1).bind fun x1 => (dI c2).bind fun x2 => (dI c3).bind fun x3 => some ⟨x0, x1, x2, x3⟩
 | _ => none
theorem zo6 (cs : List Play.SV) (x : MReg) (vals : List Value) (hd : zo5 cs = some x) (hv : Play.VRL ρ cs vals) : cs.length = 4 ∧ regE w vals x := by
 unfold zo5 at hd
 split at hd
 ·simp only [Option.bind_eq_some_iff] at hd
  obtain ⟨x0, g0, x1, g1, x2, g2, x3, g3, hd⟩ := hd
  cases hd
  obtain ⟨y0, y1, y2, y3, rfl, h0, h1, h2, h3⟩ := vrl4' hv
  obtain ⟨rfl, b0⟩ := zgx g0 h0
  obtain ⟨rfl, b1⟩ := z3v g1 h1
  obtain ⟨rfl, b2⟩ := z3v g2 h2
  obtain ⟨rfl, b3⟩ := z3v g3 h3
  exact ⟨rfl, rfl, b0, b1, b2, b3⟩
 ·cases hd
def zh3 : List Play.SV → Option MUnit
 | [c0, c1] => (dS c0).bind fun x0 => (dI c1).bind fun x1 => some ⟨x0, x1⟩
 | _ => none
theorem zle (cs : List Play.SV) (x : MUnit) (vals : List Value) (hd : zh3 cs = some x) (hv : Play.VRL ρ cs vals) : cs.length = 2 ∧ z4q w vals x := by
 unfold zh3 at hd
 split at hd
 ·simp only [Option.bind_eq_some_iff] at hd
  obtain ⟨x0, g0, x1, g1, hd⟩ := hd
  cases hd
  obtain ⟨y0, y1, rfl, h0, h1⟩ := vrl2' hv
  obtain ⟨rfl, b0⟩ := zgx g0 h0
  obtain ⟨rfl, b1⟩ := z3v g1 h1
  exact ⟨rfl, rfl, b0, b1⟩
 ·cases hd
def zbe : List Play.SV → Option MPiece
 | [c0, c1] => (dI c0).bind fun x0 => (dI c1).bind fun x1 => some ⟨x0, x1⟩
 | _ => none
theorem zh1 (cs : List Play.SV) (x : MPiece) (vals : List Value) (hd : zbe cs = some x) (hv : Play.VRL ρ cs vals) : cs.length = 2 ∧ z5x w vals x := by
 unfold zbe at hd
 split at hd
 ·simp only [Option.bind_eq_some_iff] at hd
  obtain ⟨x0, g0, x1, g1, hd⟩ := hd
  cases hd
  obtain ⟨y0, y1, rfl, h0, h1⟩ := vrl2' hv
  obtain ⟨rfl, b0⟩ := z3v g0 h0
  obtain ⟨rfl, b1⟩ := z3v g1 h1
  exact ⟨rfl, rfl, b0, b1⟩
 ·cases hd
noncomputable def zgy (h : Play.H) : List Play.SV → Option MBank
 | [c0, c1] => (dS c0).bind fun x0 => (z37 1 (zo3) h c1).bind fun x1 => some ⟨x0, x1⟩
 | _ => none
theorem zla (s : Play.Sim P G M ρ h w) (cs : List Play.SV) (x : MBank) (vals : List Value) (hd : zgy h cs = some x) (hv : Play.VRL ρ cs vals) : cs.length = 2 ∧ z1k w vals x := by
 unfold zgy at hd
 split at hd
 ·simp only [Option.bind_eq_some_iff] at hd
  obtain ⟨x0, g0, x1, g1, hd⟩ := hd
  cases hd
  obtain ⟨y0, y1, rfl, h0, h1⟩ := vrl2' hv
  obtain ⟨rfl, b0⟩ := zgx g0 h0
  have b1 := z21 s zo4 h1 g1
  exact ⟨rfl, y1, rfl, b0, b1⟩
 ·cases hd
noncomputable def zh0 (h : Play.H) : List Play.SV → Option MOper
 | [c0, c1, c2, c3, c4, c5] => (dS c0).bind fun x0 => (d8 c1).bind fun x1 => (dI c2).bind fun x2 => (dI c3).bind fun x3 => (z37 2 (zbe) h c4).bind fun x4 => (dI c5).bind fun x5 => some ⟨x0, x1, x2, x3, x4, x5⟩
 | _ => none
theorem zld (s : Play.Sim P G M ρ h w) (cs : List Play.SV) (x : MOper) (vals : List Value) (hd : zh0 h cs = some x) (hv : Play.VRL ρ cs vals) : cs.length = 6 ∧ z1c w vals x := by
 unfold zh0 at hd
 split at hd
 ·simp only [Option.bind_eq_some_iff] at hd
  obtain ⟨x0, g0, x1, g1, x2, g2, x3, g3, x4, g4, x5, g5, hd⟩ := hd
  cases hd
  obtain ⟨y0, y1, y2, y3, y4, y5, rfl, h0, h1, h2, h3, h4, h5⟩ := vrl6' hv
  obtain ⟨rfl, b0⟩ := zgx g0 h0
  obtain ⟨rfl, b1⟩ := zuw g1 h1
  obtain ⟨rfl, b2⟩ := z3v g2 h2
  obtain ⟨rfl, b3⟩ := z3v g3 h3
  have b4 := z21 s zh1 h4 g4
  obtain ⟨rfl, b5⟩ := z3v g5 h5
  exact ⟨rfl, y4, rfl, b0, b1, b2, b3, b4, b5⟩
 ·cases hd
noncomputable def znz (h : Play.H) : List Play.SV → Option MEff
 | [c0, c1, c2, a0, a1, a2, a3, a4, a5, v0, v1, v2, v3, v4, v5, e0, e1, e2, e3, e4, e5] => (d8 c0).bind fun x0 => (dI c1).bind fun x1 => (dI c2).bind fun x2 => (zh2 8 h [a0, a1, a2, a3, a4, a5]).bind fun x3 => (zh2 8 h [v0, v1, v2, v3, v4, v5]).bind fun x4 => (zh2 8 h [e0, e1, e2, e3, e4, e5]).bind fun x5 => some ⟨x0, x1, x2, x3, x4, x5⟩
 | _ => none
theorem zgi (a b : List Play.SV) {vals : List Value} (hv : Play.VRL ρ (a ++ b) vals) : ∃ x y, vals = x ++ y ∧ Play.VRL ρ a x ∧ Play.VRL ρ b y := by
 refine ⟨vals.take a.length, vals.drop a.length, (List.take_append_drop _ _).symm, ?_, ?_⟩
 ·have := hv.take a.length; rwa [List.take_left] at this
 ·have := hv.drop a.length; rwa [List.drop_left] at this
theorem zo0 (s : Play.Sim P G M ρ h w) (cs : List Play.SV) (x : MEff) (vals : List Value) (hd : znz h cs = some x) (hv : Play.VRL ρ cs vals) : cs.length = 21 ∧ effE w vals x := by
 unfold znz at hd
 split at hd
 ·rename_i c0 c1 c2 a0 a1 a2 a3 a4 a5 v0 v1 v2 v3 v4 v5 e0 e1 e2 e3 e4 e5
  simp only [Option.bind_eq_some_iff] at hd
  obtain ⟨x0, g0, x1, g1, x2, g2, x3, g3, x4, g4, x5, g5, hd⟩ := hd
  cases hd
  cases hv with | cons h0 hv => cases hv with | cons h1 hv => cases hv with | cons h2 hv =>
  obtain ⟨p, q, rfl, hp, hq⟩ := zgi [a0, a1, a2, a3, a4, a5] _ hv
  obtain ⟨q1, q2, rfl, hq1, hq2⟩ := zgi [v0, v1, v2, v3, v4, v5] _ hq
  obtain ⟨rfl, b0⟩ := zuw g0 h0
  obtain ⟨rfl, b1⟩ := z3v g1 h1
  obtain ⟨rfl, b2⟩ := z3v g2 h2
  obtain ⟨_, s3, rfl, f3, t3⟩ := zbf s 8 _ _ _ g3 hp
  obtain ⟨_, s4, rfl, f4, t4⟩ := zbf s 8 _ _ _ g4 hq1
  obtain ⟨_, s5, rfl, f5, t5⟩ := zbf s 8 _ _ _ g5 hq2
  exact ⟨rfl, s3, s4, s5, by simp, b0, b1, b2, f3, t3, f4, t4, f5, t5⟩
 ·cases hd
noncomputable def zo1 (h : Play.H) : List Play.SV → Option MIns
 | [c0, c1, c2, c3, c4, c5, c6, c7, c8] => (dS c0).bind fun x0 => (d64 c1).bind fun x1 => (d64 c2).bind fun x2 => (z37 6 (zh0 h) h c3).bind fun x3 => (z37 21 (znz h) h c4).bind fun x4 => (dI c5).bind fun x5 => (dI c6).bind fun x6 => (dI c7).bind fun x7 => (dI c8).bind fun x8 => some ⟨x0, x1, x2, x3, x4, x5, x6, x7, x8⟩
 | _ => none
theorem zo2 (s : Play.Sim P G M ρ h w) (cs : List Play.SV) (x : MIns) (vals : List Value) (hd : zo1 h cs = some x) (hv : Play.VRL ρ cs vals) : cs.length = 9 ∧ insE w vals x := by
 unfold zo1 at hd
 split at hd
 ·simp only [Option.bind_eq_some_iff] at hd
  obtain ⟨x0, g0, x1, g1, x2, g2, x3, g3, x4, g4, x5, g5, x6, g6, x7, g7, x8, g8, hd⟩ := hd
  cases hd
  obtain ⟨y0, y1, y2, y3, y4, y5, y6, y7, y8, rfl, h0, h1, h2, h3, h4, h5, h6, h7, h8⟩ := vrl9' hv
  obtain ⟨rfl, b0⟩ := zgx g0 h0
  obtain ⟨rfl, b1⟩ := zny g1 h1
  obtain ⟨rfl, b2⟩ := zny g2 h2
  have b3 := z21 s (zld s) h3 g3
  have b4 := z21 s (zo0 s) h4 g4
  obtain ⟨rfl, b5⟩ := z3v g5 h5
  obtain ⟨rfl, b6⟩ := z3v g6 h6
  obtain ⟨rfl, b7⟩ := z3v g7 h7
  obtain ⟨rfl, b8⟩ := z3v g8 h8
  exact ⟨rfl, y3, y4, rfl, b0, b1, b2, b3, b4, b5, b6, b7, b8⟩
 ·cases hd
noncomputable def zgz (h : Play.H) : List Play.SV → Option Mach
 | [c0, c1, c2, c3, c4, c5, c6] => (dS c0).bind fun x0 => (dI c1).bind fun x1 => (dI c2).bind fun x2 => (z37 4 (zo5) h c3).bind fun x3 => (z37 2 (zgy h) h c4).bind fun x4 => (z37 2 (zh3) h c5).bind fun x5 => (z37 9 (zo1 h) h c6).bind fun x6 => some ⟨x0, x1, x2, x3, x4, x5, x6⟩
 | _ => none
theorem zlc (s : Play.Sim P G M ρ h w) (cs : List Play.SV) (x : Mach) (vals : List Value) (hd : zgz h cs = some x) (hv : Play.VRL ρ cs vals) : cs.length = 7 ∧ zih w vals x := by
 unfold zgz at hd
 split at hd
 ·simp only [Option.bind_eq_some_iff] at hd
  obtain ⟨x0, g0, x1, g1, x2, g2, x3, g3, x4, g4, x5, g5, x6, g6, hd⟩ := hd
  cases hd
  obtain ⟨y0, y1, y2, y3, y4, y5, y6, rfl, h0, h1, h2, h3, h4, h5, h6⟩ := vrl7' hv
  obtain ⟨rfl, b0⟩ := zgx g0 h0
  obtain ⟨rfl, b1⟩ := z3v g1 h1
  obtain ⟨rfl, b2⟩ := z3v g2 h2
  have b3 := z21 s zo6 h3 g3
  have b4 := z21 s (zla s) h4 g4
  have b5 := z21 s zle h5 g5
  have b6 := z21 s (zo2 s) h6 g6
  exact ⟨rfl, y3, y4, y5, y6, rfl, b0, b1, b2, b3, b4, b5, b6⟩
 ·cases hd
noncomputable def decV (h : Play.H) : Play.SV → Option Mach
 | .agg l => zgz h l
 | _ => none
theorem zux (s : Play.Sim P G M ρ h w) {v : Play.SV} {x : Value} {m : Mach} (hd : decV h v = some m) (hv : Play.VR ρ v x) : zu w x m := by
 unfold decV at hd
 split at hd
 ·cases hv with
  | @agg l xs hl => exact ⟨xs, rfl, (zlc s _ _ _ hd hl).2⟩
 ·cases hd
end
noncomputable def decR : Play.Res → Option Mach
 | .done v h => decV h v
 | _ => none
theorem zfy {P : Program} {n : Nat} {f : FuncId} {args : List Value} {m : Mach} (hr : decR (Play.start P [] n f (args.map .lit) (.mk .e .nil)) = some m) (w : World) :
 Calls P f args.toArray w fun e w' => ∃ x : Value, e = .returned x ∧ zu w' x m ∧ Below w.heap.size w w' := by
 generalize hs : Play.start P [] n f (args.map .lit) (.mk .e .nil) = r at hr
 cases r with
 | done v h' =>
   refine (Play.play_done hs w fun g cs hg => by cases hg).mono ?_
   rintro e w' ⟨x, ρ, h1, h2, h3, h4⟩
   exact ⟨x, h1, zux h3 hr h2, h4⟩
 | _ => cases hr
end Go.Proofs.YtjjfeddenhemhaaGreatDoor
namespace Go.Proofs.YtjjfeddenhemhaaGreatDoor
set_option maxRecDepth 100000
def gT0 : Tm := .mk 0 0 0 ⟨#[]⟩ 0 []
def gT1 : Tm := .mk 2 32 0 ⟨#[97]⟩ 0 []
def gT2 : Tm := .mk 2 16 0 ⟨#[97]⟩ 0 []
def gT3 : Tm := .mk 2 16 0 ⟨#[115]⟩ 0 []
def gT4 : Tm := .mk 2 32 0 ⟨#[98]⟩ 0 []
def gT5 : Tm := .mk 2 32 0 ⟨#[110]⟩ 0 []
def gT6 : Tm := .mk 5 32 0 ⟨#[]⟩ 0 [gT1, gT5]
def gT7 : Tm := .mk 2 16 0 ⟨#[114, 46, 115, 112]⟩ 0 []
def gT8 : Tm := .mk 2 16 0 ⟨#[110]⟩ 0 []
def gT9 : Tm := .mk 2 32 0 ⟨#[116, 111]⟩ 0 []
def gT10 : Tm := .mk 2 16 0 ⟨#[116, 111]⟩ 0 []
def gT11 : Tm := .mk 1 16 0 ⟨#[]⟩ 0 []
def gT12 : Tm := .mk 1 16 2 ⟨#[]⟩ 0 []
def gT13 : Tm := .mk 2 32 0 ⟨#[100]⟩ 0 []
def gT14 : Tm := .mk 2 16 0 ⟨#[100]⟩ 0 []
def gT15 : Tm := .mk 6 16 0 ⟨#[]⟩ 0 [gT7, gT12]
def gT16 : Tm := .mk 16 1 0 ⟨#[]⟩ 0 [gT1, gT4]
def gT17 : Tm := .mk 5 16 0 ⟨#[]⟩ 0 [gT2, gT3]
def gT18 : Tm := .mk 5 16 0 ⟨#[]⟩ 0 [gT3, gT8]
def gT19 : Tm := .mk 2 1 0 ⟨#[114, 46, 122, 102]⟩ 0 []
def gT20 : Tm := .mk 2 8 0 ⟨#[115]⟩ 0 []
def gT21 : Tm := .mk 7 32 0 ⟨#[]⟩ 0 [gT1, gT4]
def gT22 : Tm := .mk 18 1 0 ⟨#[]⟩ 0 [gT1, gT4]
def gT23 : Tm := .mk 24 8 0 ⟨#[]⟩ 0 [gT6]
def gT25 : Tm := .mk 1 1 1 ⟨#[]⟩ 0 []
def gT26 : Tm := .mk 2 1 0 ⟨#[114, 46, 115, 102]⟩ 0 []
def gT27 : Tm := .mk 2 1 0 ⟨#[114, 46, 99, 102]⟩ 0 []
def gT28 : Tm := .mk 20 33 0 ⟨#[]⟩ 0 [gT25, gT1]
def gT29 : Tm := .mk 10 32 0 ⟨#[]⟩ 0 [gT1, gT4]
def gT30 : Tm := .mk 11 32 0 ⟨#[]⟩ 0 [gT1, gT4]
def gT31 : Tm := .mk 12 32 0 ⟨#[]⟩ 0 [gT1, gT4]
def gT32 : Tm := .mk 13 32 0 ⟨#[]⟩ 0 [gT1, gT4]
def gT33 : Tm := .mk 14 32 0 ⟨#[]⟩ 0 [gT1, gT4]
def gT34 : Tm := .mk 15 32 0 ⟨#[]⟩ 0 [gT1, gT4]
def gT35 : Tm := .mk 10 16 0 ⟨#[]⟩ 0 [gT2, gT3]
def gT36 : Tm := .mk 5 16 0 ⟨#[]⟩ 0 [gT7, gT12]
def gT38 : Tm := .mk 5 32 0 ⟨#[]⟩ 0 [gT1, gT4]
def gT39 : Tm := .mk 6 32 0 ⟨#[]⟩ 0 [gT1, gT4]
def gT40 : Tm := .mk 8 32 0 ⟨#[]⟩ 0 [gT1, gT4]
def gT41 : Tm := .mk 9 32 0 ⟨#[]⟩ 0 [gT1, gT4]
def gT42 : Tm := .mk 17 1 0 ⟨#[]⟩ 0 [gT1, gT4]
def gT43 : Tm := .mk 16 1 0 ⟨#[]⟩ 0 [gT2, gT3]
def gT44 : Tm := .mk 17 1 0 ⟨#[]⟩ 0 [gT2, gT3]
def gT45 : Tm := .mk 18 1 0 ⟨#[]⟩ 0 [gT2, gT3]
def gT46 : Tm := .mk 8 16 0 ⟨#[]⟩ 0 [gT2, gT3]
def gT47 : Tm := .mk 9 16 0 ⟨#[]⟩ 0 [gT2, gT3]
def gT48 : Tm := .mk 5 16 0 ⟨#[]⟩ 0 [gT2, gT8]
def gT49 : Tm := .mk 2 32 0 ⟨#[112, 99]⟩ 0 []
def gT50 : Tm := .mk 22 32 0 ⟨#[]⟩ 0 [gT23]
def gT51 : Tm := .mk 21 16 0 ⟨#[]⟩ 0 [gT13]
def gT52 : Tm := .mk 22 32 0 ⟨#[]⟩ 0 [gT16]
def gT53 : Tm := .mk 22 32 0 ⟨#[]⟩ 0 [gT42]
def gT54 : Tm := .mk 22 32 0 ⟨#[]⟩ 0 [gT22]
def gT55 : Tm := .mk 24 32 0 ⟨#[]⟩ 0 [gT6]
def gT56 : Tm := .mk 24 16 0 ⟨#[]⟩ 0 [gT6]
def gT57 : Tm := .mk 21 8 0 ⟨#[]⟩ 0 [gT13]
def gT58 : Tm := .mk 24 16 0 ⟨#[]⟩ 0 [gT7]
def gO0 : MOper := ⟨⟨#[97]⟩, 1, 0, 0, [⟨18, 4⟩], (-1)⟩
def gO1 : MOper := ⟨⟨#[100]⟩, 1, 0, 0, [⟨7, 3⟩], (-1)⟩
def gO2 : MOper := ⟨⟨#[100]⟩, 1, 0, 0, [⟨22, 4⟩], (-1)⟩
def gO5 : MOper := ⟨⟨#[115]⟩, 1, 0, 0, [⟨4, 3⟩], (-1)⟩
def gO6 : MOper := ⟨⟨#[98]⟩, 1, 0, 0, [⟨14, 4⟩], (-1)⟩
def gO8 : MOper := ⟨⟨#[97]⟩, 1, 0, 0, [], 0⟩
def gO9 : MOper := ⟨⟨#[110]⟩, 2, 0, 0, [⟨0, 16⟩], (-1)⟩
def gO10 : MOper := ⟨⟨#[116, 111]⟩, 4, 0, 0, [⟨0, 10⟩], (-1)⟩
def gO11 : MOper := ⟨⟨#[110]⟩, 3, 0, 0, [⟨0, 16⟩], (-1)⟩
def gO13 : MOper := ⟨⟨#[110]⟩, 3, 0, 0, [⟨0, 4⟩], (-1)⟩
def gO16 : MOper := ⟨⟨#[100]⟩, 1, 1, 0, [⟨7, 3⟩], (-1)⟩
def gO17 : MOper := ⟨⟨#[115]⟩, 1, 1, 0, [⟨4, 3⟩], (-1)⟩
def gO18 : MOper := ⟨⟨#[116, 111]⟩, 4, 0, 0, [⟨0, 14⟩], (-1)⟩
def gO20 : MOper := ⟨⟨#[110]⟩, 3, 0, 0, [⟨0, 5⟩], (-1)⟩
def gO21 : MOper := ⟨⟨#[110]⟩, 2, 0, 0, [⟨0, 7⟩], (-1)⟩
def gO23 : MOper := ⟨⟨#[116, 111]⟩, 4, 0, 0, [⟨0, 26⟩], (-1)⟩
def gO26 : MOper := ⟨⟨#[110]⟩, 3, 0, 1, [⟨0, 4⟩], (-1)⟩
def zlo : List MReg := [⟨⟨#[114, 48]⟩, 32, (-1), 0⟩, ⟨⟨#[114, 49]⟩, 32, (-1), 0⟩, ⟨⟨#[114, 50]⟩, 32, (-1), 0⟩, ⟨⟨#[114, 51]⟩, 32, (-1), 0⟩, ⟨⟨#[114, 52]⟩, 32, (-1), 0⟩, ⟨⟨#[114, 53]⟩, 32, (-1), 0⟩, ⟨⟨#[114, 54]⟩, 32, (-1), 0⟩, ⟨⟨#[114, 55]⟩, 32, (-1), 0⟩, ⟨⟨#[114, 56]⟩, 32, (-1), 0⟩, ⟨⟨#[114, 57]⟩, 32, (-1), 0⟩, ⟨⟨#[114, 49, 48]⟩, 32, (-1), 0⟩, ⟨⟨#[114, 49, 49]⟩, 32, (-1), 0⟩, ⟨⟨#[114, 49, 50]⟩, 32, (-1), 0⟩, ⟨⟨#[114, 49, 51]⟩, 32, (-1), 0⟩, ⟨⟨#[115, 112]⟩, 32, (-1), 0⟩, ⟨⟨#[108, 114]⟩, 32, (-1), 0⟩]
def zhi : List MBank := [⟨⟨#[103, 112, 114]⟩, [0, 1, 2, 3, 4, 5, 6, 7, 8, 9, 10, 11, 12, 13, 14, 15]⟩]
def zi4 : List MUnit := [⟨⟨#[97, 108, 117]⟩, 1⟩, ⟨⟨#[109, 101, 109]⟩, 1⟩, ⟨⟨#[109, 117, 108]⟩, 1⟩]
def zhk : MIns := ⟨⟨#[97, 100, 100]⟩, 4227858432, 0, [gO2, gO0, gO6], [⟨1, 0, 0, gT0, gT38, gT0⟩], 0, 1, 1, 0⟩
def zhl : MIns := ⟨⟨#[115, 117, 98]⟩, 4227858432, 67108864, [gO2, gO0, gO6], [⟨1, 0, 0, gT0, gT39, gT0⟩], 0, 1, 1, 0⟩
def zhm : MIns := ⟨⟨#[97, 110, 100]⟩, 4227858432, 134217728, [gO2, gO0, gO6], [⟨1, 0, 0, gT0, gT40, gT0⟩], 0, 1, 1, 0⟩
def zhn : MIns := ⟨⟨#[111, 114]⟩, 4227858432, 201326592, [gO2, gO0, gO6], [⟨1, 0, 0, gT0, gT41, gT0⟩], 0, 1, 1, 0⟩
def zho : MIns := ⟨⟨#[120, 111, 114]⟩, 4227858432, 268435456, [gO2, gO0, gO6], [⟨1, 0, 0, gT0, gT29, gT0⟩], 0, 1, 1, 0⟩
def zhp : MIns := ⟨⟨#[115, 104, 108]⟩, 4227858432, 335544320, [gO2, gO0, gO6], [⟨1, 0, 0, gT0, gT30, gT0⟩], 0, 1, 1, 0⟩
def zhq : MIns := ⟨⟨#[115, 104, 114]⟩, 4227858432, 402653184, [gO2, gO0, gO6], [⟨1, 0, 0, gT0, gT31, gT0⟩], 0, 1, 1, 0⟩
def zhr : MIns := ⟨⟨#[115, 97, 114]⟩, 4227858432, 469762048, [gO2, gO0, gO6], [⟨1, 0, 0, gT0, gT32, gT0⟩], 0, 1, 1, 0⟩
def zhs : MIns := ⟨⟨#[109, 117, 108]⟩, 4227858432, 536870912, [gO2, gO0, gO6], [⟨1, 0, 0, gT0, gT21, gT0⟩], 2, 1, 4, 0⟩
def zht : MIns := ⟨⟨#[117, 100, 105, 118]⟩, 4227858432, 603979776, [gO2, gO0, gO6], [⟨1, 0, 0, gT0, gT33, gT0⟩], 2, 8, 8, 0⟩
def zda : MIns := ⟨⟨#[117, 114, 101, 109]⟩, 4227858432, 671088640, [gO2, gO0, gO6], [⟨1, 0, 0, gT0, gT34, gT0⟩], 2, 8, 8, 0⟩
def zdb : MIns := ⟨⟨#[97, 100, 100, 105]⟩, 4227858432, 738197504, [gO2, gO0, gO9], [⟨1, 0, 0, gT0, gT6, gT0⟩], 0, 1, 1, 0⟩
def zdc : MIns := ⟨⟨#[97, 110, 100, 105]⟩, 4227858432, 805306368, [gO2, gO0, gO11], [⟨1, 0, 0, gT0, (.mk 8 32 0 ⟨#[]⟩ 0 [gT1, gT5]), gT0⟩], 0, 1, 1, 0⟩
def zdd : MIns := ⟨⟨#[111, 114, 105]⟩, 4227858432, 872415232, [gO2, gO0, gO11], [⟨1, 0, 0, gT0, (.mk 9 32 0 ⟨#[]⟩ 0 [gT1, gT5]), gT0⟩], 0, 1, 1, 0⟩
def zde : MIns := ⟨⟨#[120, 111, 114, 105]⟩, 4227858432, 939524096, [gO2, gO0, gO11], [⟨1, 0, 0, gT0, (.mk 10 32 0 ⟨#[]⟩ 0 [gT1, gT5]), gT0⟩], 0, 1, 1, 0⟩
def zdf : MIns := ⟨⟨#[115, 104, 108, 105]⟩, 4227858432, 1006632960, [gO2, gO0, gO20], [⟨1, 0, 0, gT0, (.mk 11 32 0 ⟨#[]⟩ 0 [gT1, gT5]), gT0⟩], 0, 1, 1, 0⟩
def zdg : MIns := ⟨⟨#[115, 104, 114, 105]⟩, 4227858432, 1073741824, [gO2, gO0, gO20], [⟨1, 0, 0, gT0, (.mk 12 32 0 ⟨#[]⟩ 0 [gT1, gT5]), gT0⟩], 0, 1, 1, 0⟩
def zdh : MIns := ⟨⟨#[115, 97, 114, 105]⟩, 4227858432, 1140850688, [gO2, gO0, gO20], [⟨1, 0, 0, gT0, (.mk 13 32 0 ⟨#[]⟩ 0 [gT1, gT5]), gT0⟩], 0, 1, 1, 0⟩
def zdi : MIns := ⟨⟨#[108, 117, 105]⟩, 4227858432, 1207959552, [gO2, gO11], [⟨1, 0, 0, gT0, (.mk 11 32 0 ⟨#[]⟩ 0 [gT5, (.mk 1 32 16 ⟨#[]⟩ 0 [])]), gT0⟩], 0, 1, 1, 0⟩
def zdj : MIns := ⟨⟨#[108, 119]⟩, 4227858432, 1275068416, [gO2, gO0, gO9], [⟨1, 0, 0, gT0, gT55, gT0⟩], 1, 1, 2, 0⟩
def zdk : MIns := ⟨⟨#[108, 98]⟩, 4227858432, 1342177280, [gO2, gO0, gO9], [⟨1, 0, 0, gT0, (.mk 23 32 0 ⟨#[]⟩ 0 [gT23]), gT0⟩], 1, 1, 2, 0⟩
def zdl : MIns := ⟨⟨#[108, 98, 117]⟩, 4227858432, 1409286144, [gO2, gO0, gO9], [⟨1, 0, 0, gT0, gT50, gT0⟩], 1, 1, 2, 0⟩
def zdm : MIns := ⟨⟨#[108, 104, 117]⟩, 4227858432, 1476395008, [gO2, gO0, gO9], [⟨1, 0, 0, gT0, (.mk 22 32 0 ⟨#[]⟩ 0 [gT56]), gT0⟩], 1, 1, 2, 0⟩
def zdn : MIns := ⟨⟨#[115, 119]⟩, 4227858432, 1543503872, [gO2, gO0, gO9], [⟨2, 0, 0, gT6, gT13, gT0⟩], 1, 1, 1, 0⟩
def zdo : MIns := ⟨⟨#[115, 104]⟩, 4227858432, 1610612736, [gO2, gO0, gO9], [⟨2, 0, 0, gT6, gT51, gT0⟩], 1, 1, 1, 0⟩
def zdp : MIns := ⟨⟨#[115, 98]⟩, 4227858432, 1677721600, [gO2, gO0, gO9], [⟨2, 0, 0, gT6, gT57, gT0⟩], 1, 1, 1, 0⟩
def zdq : MIns := ⟨⟨#[101, 113]⟩, 4227858432, 1744830464, [gO2, gO0, gO6], [⟨1, 0, 0, gT0, gT52, gT0⟩], 0, 1, 1, 0⟩
def zdr : MIns := ⟨⟨#[117, 108, 116]⟩, 4227858432, 1811939328, [gO2, gO0, gO6], [⟨1, 0, 0, gT0, gT53, gT0⟩], 0, 1, 1, 0⟩
def zds : MIns := ⟨⟨#[115, 108, 116]⟩, 4227858432, 1879048192, [gO2, gO0, gO6], [⟨1, 0, 0, gT0, gT54, gT0⟩], 0, 1, 1, 0⟩
def zdt : MIns := ⟨⟨#[98, 101, 113]⟩, 4227858432, 1946157056, [gO0, gO6, gO18], [⟨3, 0, 0, gT0, gT9, gT16⟩], 0, 1, 1, 1⟩
def zdu : MIns := ⟨⟨#[98, 110, 101]⟩, 4227858432, 2013265920, [gO0, gO6, gO18], [⟨3, 0, 0, gT0, gT9, (.mk 3 1 0 ⟨#[]⟩ 0 [gT16])⟩], 0, 1, 1, 1⟩
def zdv : MIns := ⟨⟨#[98, 108, 116]⟩, 4227858432, 2080374784, [gO0, gO6, gO18], [⟨3, 0, 0, gT0, gT9, gT22⟩], 0, 1, 1, 1⟩
def zdw : MIns := ⟨⟨#[106, 117, 109, 112]⟩, 4227858432, 2147483648, [gO23], [⟨3, 0, 0, gT0, gT9, gT0⟩], 0, 1, 1, 1⟩
def zdx : MIns := ⟨⟨#[99, 97, 108, 108]⟩, 4227858432, 2214592512, [gO23], [⟨1, (-1), 15, gT0, (.mk 5 32 0 ⟨#[]⟩ 0 [gT49, (.mk 1 32 8 ⟨#[]⟩ 0 [])]), gT0⟩, ⟨3, 0, 0, gT0, gT9, gT0⟩], 0, 1, 1, 1⟩
def zdy : MIns := ⟨⟨#[106, 114]⟩, 4227858432, 2281701376, [gO0], [⟨3, 0, 0, gT0, gT1, gT0⟩], 0, 1, 1, 1⟩
def zdz : MIns := ⟨⟨#[116, 114, 97, 112]⟩, 4227858432, 2348810240, [gO11], [⟨4, 0, 0, gT0, gT5, gT0⟩], 0, 1, 1, 0⟩
def ze0 : MIns := ⟨⟨#[116, 101, 108, 108]⟩, 4227858432, 2415919104, [gO0], [⟨4, 0, 0, gT0, gT28, gT0⟩], 0, 1, 1, 0⟩
def ze1 : MIns := ⟨⟨#[104, 97, 108, 116]⟩, 4227858432, 2483027968, [gO0], [⟨4, 0, 0, gT0, gT1, gT0⟩], 0, 1, 1, 0⟩
def ze2 : MIns := ⟨⟨#[110, 111, 112]⟩, 4227858432, 2550136832, [], [], 0, 1, 1, 0⟩
def ze3 : MIns := ⟨⟨#[108, 105]⟩, 4227858432, 2617245696, [gO2, gO9], [⟨1, 0, 0, gT0, gT5, gT0⟩], 0, 1, 1, 0⟩
def zox : List MIns := [zhk, zhl, zhm, zhn, zho, zhp, zhq, zhr, zhs, zht, zda, zdb, zdc, zdd, zde, zdf, zdg, zdh, zdi, zdj, zdk, zdl, zdm, zdn, zdo, zdp, zdq, zdr, zds, zdt, zdu, zdv, zdw, zdx, zdy, zdz, ze0, ze1, ze2, ze3]
def given0 : Mach := ⟨⟨#[114, 105, 115, 99]⟩, 4, 32, zlo, zhi, zi4, zox⟩
def zlp : List MReg := [⟨⟨#[97, 120]⟩, 16, (-1), 0⟩, ⟨⟨#[98, 120]⟩, 16, (-1), 0⟩, ⟨⟨#[99, 120]⟩, 16, (-1), 0⟩, ⟨⟨#[100, 120]⟩, 16, (-1), 0⟩, ⟨⟨#[115, 105]⟩, 16, (-1), 0⟩, ⟨⟨#[100, 105]⟩, 16, (-1), 0⟩, ⟨⟨#[98, 112]⟩, 16, (-1), 0⟩, ⟨⟨#[115, 112]⟩, 16, (-1), 0⟩, ⟨⟨#[97, 108]⟩, 8, 0, 0⟩, ⟨⟨#[98, 108]⟩, 8, 1, 0⟩, ⟨⟨#[99, 108]⟩, 8, 2, 0⟩, ⟨⟨#[100, 108]⟩, 8, 3, 0⟩, ⟨⟨#[97, 104]⟩, 8, 0, 8⟩, ⟨⟨#[98, 104]⟩, 8, 1, 8⟩, ⟨⟨#[99, 104]⟩, 8, 2, 8⟩, ⟨⟨#[100, 104]⟩, 8, 3, 8⟩, ⟨⟨#[122, 102]⟩, 1, (-1), 0⟩, ⟨⟨#[99, 102]⟩, 1, (-1), 0⟩, ⟨⟨#[115, 102]⟩, 1, (-1), 0⟩]
def zhj : List MBank := [⟨⟨#[119]⟩, [0, 1, 2, 3, 4, 5, 6, 7]⟩, ⟨⟨#[98]⟩, [8, 9, 10, 11, 12, 13, 14, 15]⟩]
def zi5 : List MUnit := [⟨⟨#[99, 111, 114, 101]⟩, 1⟩]
def zhu : MIns := ⟨⟨#[109, 111, 118]⟩, 64512, 0, [gO1, gO5], [⟨1, 0, 0, gT0, gT3, gT0⟩], 0, 1, 1, 0⟩
def zhv : MIns := ⟨⟨#[109, 111, 118, 105]⟩, 64512, 1024, [gO1, gO21], [⟨1, 0, 0, gT0, gT8, gT0⟩], 0, 1, 1, 0⟩
def zhw : MIns := ⟨⟨#[109, 111, 118, 104]⟩, 64512, 2048, [gO1, gO8, gO21], [⟨1, 0, 0, gT0, (.mk 9 16 0 ⟨#[]⟩ 0 [(.mk 11 16 0 ⟨#[]⟩ 0 [gT8, (.mk 1 16 9 ⟨#[]⟩ 0 [])]), (.mk 8 16 0 ⟨#[]⟩ 0 [gT2, (.mk 1 16 511 ⟨#[]⟩ 0 [])])]), gT0⟩], 0, 1, 1, 0⟩
def zhx : MIns := ⟨⟨#[97, 100, 100]⟩, 64512, 3072, [gO1, gO8, gO5], [⟨1, 0, 0, gT0, gT17, gT0⟩, ⟨1, (-1), 16, gT0, (.mk 16 1 0 ⟨#[]⟩ 0 [gT17, gT11]), gT0⟩, ⟨1, (-1), 17, gT0, (.mk 17 1 0 ⟨#[]⟩ 0 [gT17, gT2]), gT0⟩, ⟨1, (-1), 18, gT0, (.mk 18 1 0 ⟨#[]⟩ 0 [gT17, gT11]), gT0⟩], 0, 1, 1, 0⟩
def zhy : MIns := ⟨⟨#[115, 117, 98]⟩, 64512, 4096, [gO1, gO8, gO5], [⟨1, 0, 0, gT0, (.mk 6 16 0 ⟨#[]⟩ 0 [gT2, gT3]), gT0⟩, ⟨1, (-1), 16, gT0, gT43, gT0⟩, ⟨1, (-1), 17, gT0, gT44, gT0⟩, ⟨1, (-1), 18, gT0, gT45, gT0⟩], 0, 1, 1, 0⟩
def zhz : MIns := ⟨⟨#[97, 110, 100]⟩, 64512, 5120, [gO1, gO8, gO5], [⟨1, 0, 0, gT0, gT46, gT0⟩, ⟨1, (-1), 16, gT0, (.mk 16 1 0 ⟨#[]⟩ 0 [gT46, gT11]), gT0⟩], 0, 1, 1, 0⟩
def zi0 : MIns := ⟨⟨#[111, 114]⟩, 64512, 6144, [gO1, gO8, gO5], [⟨1, 0, 0, gT0, gT47, gT0⟩, ⟨1, (-1), 16, gT0, (.mk 16 1 0 ⟨#[]⟩ 0 [gT47, gT11]), gT0⟩], 0, 1, 1, 0⟩
def zi1 : MIns := ⟨⟨#[120, 111, 114]⟩, 64512, 7168, [gO1, gO8, gO5], [⟨1, 0, 0, gT0, gT35, gT0⟩, ⟨1, (-1), 16, gT0, (.mk 16 1 0 ⟨#[]⟩ 0 [gT35, gT11]), gT0⟩], 0, 1, 1, 0⟩
def zi2 : MIns := ⟨⟨#[97, 100, 100, 105]⟩, 64512, 8192, [gO1, gO8, gO21], [⟨1, 0, 0, gT0, gT48, gT0⟩, ⟨1, (-1), 16, gT0, (.mk 16 1 0 ⟨#[]⟩ 0 [gT48, gT11]), gT0⟩], 0, 1, 1, 0⟩
def zi3 : MIns := ⟨⟨#[115, 104, 108]⟩, 64512, 9216, [gO1, gO8, gO5], [⟨1, 0, 0, gT0, (.mk 11 16 0 ⟨#[]⟩ 0 [gT2, gT3]), gT0⟩], 0, 1, 1, 0⟩
def ze4 : MIns := ⟨⟨#[115, 104, 114]⟩, 64512, 10240, [gO1, gO8, gO5], [⟨1, 0, 0, gT0, (.mk 12 16 0 ⟨#[]⟩ 0 [gT2, gT3]), gT0⟩], 0, 1, 1, 0⟩
def ze5 : MIns := ⟨⟨#[115, 97, 114]⟩, 64512, 11264, [gO1, gO8, gO5], [⟨1, 0, 0, gT0, (.mk 13 16 0 ⟨#[]⟩ 0 [gT2, gT3]), gT0⟩], 0, 1, 1, 0⟩
def ze6 : MIns := ⟨⟨#[115, 104, 108, 105]⟩, 64512, 12288, [gO1, gO8, gO13], [⟨1, 0, 0, gT0, (.mk 11 16 0 ⟨#[]⟩ 0 [gT2, gT8]), gT0⟩], 0, 1, 1, 0⟩
def ze7 : MIns := ⟨⟨#[115, 104, 114, 105]⟩, 64512, 13312, [gO1, gO8, gO13], [⟨1, 0, 0, gT0, (.mk 12 16 0 ⟨#[]⟩ 0 [gT2, gT8]), gT0⟩], 0, 1, 1, 0⟩
def ze8 : MIns := ⟨⟨#[110, 101, 103]⟩, 64512, 14336, [gO1, gO8], [⟨1, 0, 0, gT0, (.mk 4 16 0 ⟨#[]⟩ 0 [gT2]), gT0⟩], 0, 1, 1, 0⟩
def ze9 : MIns := ⟨⟨#[110, 111, 116]⟩, 64512, 15360, [gO1, gO8], [⟨1, 0, 0, gT0, (.mk 3 16 0 ⟨#[]⟩ 0 [gT2]), gT0⟩], 0, 1, 1, 0⟩
def zea : MIns := ⟨⟨#[109, 117, 108]⟩, 64512, 16384, [gO1, gO8, gO5], [⟨1, 0, 0, gT0, (.mk 7 16 0 ⟨#[]⟩ 0 [gT2, gT3]), gT0⟩], 0, 1, 6, 0⟩
def zeb : MIns := ⟨⟨#[117, 100, 105, 118]⟩, 64512, 17408, [gO1, gO8, gO5], [⟨1, 0, 0, gT0, (.mk 14 16 0 ⟨#[]⟩ 0 [gT2, gT3]), gT0⟩], 0, 1, 12, 0⟩
def zec : MIns := ⟨⟨#[117, 114, 101, 109]⟩, 64512, 18432, [gO1, gO8, gO5], [⟨1, 0, 0, gT0, (.mk 15 16 0 ⟨#[]⟩ 0 [gT2, gT3]), gT0⟩], 0, 1, 12, 0⟩
def zed : MIns := ⟨⟨#[99, 109, 112]⟩, 64512, 19456, [gO1, gO5], [⟨1, (-1), 16, gT0, (.mk 16 1 0 ⟨#[]⟩ 0 [gT14, gT3]), gT0⟩, ⟨1, (-1), 17, gT0, (.mk 17 1 0 ⟨#[]⟩ 0 [gT14, gT3]), gT0⟩, ⟨1, (-1), 18, gT0, (.mk 18 1 0 ⟨#[]⟩ 0 [gT14, gT3]), gT0⟩], 0, 1, 1, 0⟩
def zee : MIns := ⟨⟨#[108, 100]⟩, 64512, 20480, [gO1, gO5, gO26], [⟨1, 0, 0, gT0, (.mk 24 16 0 ⟨#[]⟩ 0 [gT18]), gT0⟩], 0, 1, 2, 0⟩
def zef : MIns := ⟨⟨#[115, 116]⟩, 64512, 21504, [gO1, gO5, gO26], [⟨2, 0, 0, gT18, gT14, gT0⟩], 0, 1, 1, 0⟩
def zeg : MIns := ⟨⟨#[108, 100, 98]⟩, 64512, 22528, [gO16, gO5, gO13], [⟨1, 0, 0, gT0, (.mk 24 8 0 ⟨#[]⟩ 0 [gT18]), gT0⟩], 0, 1, 2, 0⟩
def zeh : MIns := ⟨⟨#[115, 116, 98]⟩, 64512, 23552, [gO16, gO5, gO13], [⟨2, 0, 0, gT18, (.mk 2 8 0 ⟨#[100]⟩ 0 []), gT0⟩], 0, 1, 1, 0⟩
def zei : MIns := ⟨⟨#[109, 111, 118, 98]⟩, 64512, 24576, [gO16, gO17], [⟨1, 0, 0, gT0, gT20, gT0⟩], 0, 1, 1, 0⟩
def zej : MIns := ⟨⟨#[97, 100, 100, 98]⟩, 64512, 25600, [gO16, ⟨⟨#[97]⟩, 1, 1, 0, [], 0⟩, gO17], [⟨1, 0, 0, gT0, (.mk 5 8 0 ⟨#[]⟩ 0 [(.mk 2 8 0 ⟨#[97]⟩ 0 []), gT20]), gT0⟩], 0, 1, 1, 0⟩
def zek : MIns := ⟨⟨#[122, 101, 120, 116]⟩, 64512, 26624, [gO1, gO17], [⟨1, 0, 0, gT0, (.mk 22 16 0 ⟨#[]⟩ 0 [gT20]), gT0⟩], 0, 1, 1, 0⟩
def zel : MIns := ⟨⟨#[115, 101, 120, 116]⟩, 64512, 27648, [gO1, gO17], [⟨1, 0, 0, gT0, (.mk 23 16 0 ⟨#[]⟩ 0 [gT20]), gT0⟩], 0, 1, 1, 0⟩
def zem : MIns := ⟨⟨#[115, 101, 116, 122]⟩, 64512, 28672, [gO1], [⟨1, 0, 0, gT0, (.mk 22 16 0 ⟨#[]⟩ 0 [gT19]), gT0⟩], 0, 1, 1, 0⟩
def zen : MIns := ⟨⟨#[115, 101, 116, 99]⟩, 64512, 29696, [gO1], [⟨1, 0, 0, gT0, (.mk 22 16 0 ⟨#[]⟩ 0 [gT27]), gT0⟩], 0, 1, 1, 0⟩
def zeo : MIns := ⟨⟨#[115, 101, 116, 115]⟩, 64512, 30720, [gO1], [⟨1, 0, 0, gT0, (.mk 22 16 0 ⟨#[]⟩ 0 [gT26]), gT0⟩], 0, 1, 1, 0⟩
def zep : MIns := ⟨⟨#[106, 122]⟩, 64512, 31744, [gO10], [⟨3, 0, 0, gT0, gT10, gT19⟩], 0, 1, 1, 0⟩
def zeq : MIns := ⟨⟨#[106, 99]⟩, 64512, 32768, [gO10], [⟨3, 0, 0, gT0, gT10, gT27⟩], 0, 1, 1, 0⟩
def zer : MIns := ⟨⟨#[106, 115]⟩, 64512, 33792, [gO10], [⟨3, 0, 0, gT0, gT10, gT26⟩], 0, 1, 1, 0⟩
def zes : MIns := ⟨⟨#[106, 110, 122]⟩, 64512, 34816, [gO10], [⟨3, 0, 0, gT0, gT10, (.mk 3 1 0 ⟨#[]⟩ 0 [gT19])⟩], 0, 1, 1, 0⟩
def zet : MIns := ⟨⟨#[106, 109, 112]⟩, 64512, 35840, [gO10], [⟨3, 0, 0, gT0, gT10, gT0⟩], 0, 1, 1, 0⟩
def zeu : MIns := ⟨⟨#[106, 114]⟩, 64512, 36864, [gO5], [⟨3, 0, 0, gT0, gT3, gT0⟩], 0, 1, 1, 0⟩
def zev : MIns := ⟨⟨#[99, 97, 108, 108]⟩, 64512, 37888, [gO10], [⟨2, 0, 0, gT15, (.mk 5 16 0 ⟨#[]⟩ 0 [(.mk 2 16 0 ⟨#[112, 99]⟩ 0 []), gT12]), gT0⟩, ⟨1, (-1), 7, gT0, gT15, gT0⟩, ⟨3, 0, 0, gT0, gT10, gT0⟩], 0, 1, 1, 0⟩
def zew : MIns := ⟨⟨#[114, 101, 116]⟩, 64512, 38912, [], [⟨1, (-1), 7, gT0, gT36, gT0⟩, ⟨3, 0, 0, gT0, gT58, gT0⟩], 0, 1, 2, 0⟩
def zex : MIns := ⟨⟨#[112, 117, 115, 104]⟩, 64512, 39936, [gO5], [⟨2, 0, 0, gT15, gT3, gT0⟩, ⟨1, (-1), 7, gT0, gT15, gT0⟩], 0, 1, 1, 0⟩
def zey : MIns := ⟨⟨#[112, 111, 112]⟩, 64512, 40960, [gO1], [⟨1, 0, 0, gT0, gT58, gT0⟩, ⟨1, (-1), 7, gT0, gT36, gT0⟩], 0, 1, 2, 0⟩
def zez : MIns := ⟨⟨#[116, 114, 97, 112]⟩, 64512, 41984, [gO13], [⟨4, 0, 0, gT0, gT8, gT0⟩], 0, 1, 1, 0⟩
def zf0 : MIns := ⟨⟨#[116, 101, 108, 108]⟩, 64512, 43008, [gO5], [⟨4, 0, 0, gT0, (.mk 20 17 0 ⟨#[]⟩ 0 [gT25, gT3]), gT0⟩], 0, 1, 1, 0⟩
def zf1 : MIns := ⟨⟨#[104, 97, 108, 116]⟩, 64512, 44032, [gO5], [⟨4, 0, 0, gT0, gT3, gT0⟩], 0, 1, 1, 0⟩
def zf2 : MIns := ⟨⟨#[110, 111, 112]⟩, 64512, 45056, [], [], 0, 1, 1, 0⟩
def zf3 : MIns := ⟨⟨#[101, 113]⟩, 64512, 46080, [gO1, gO8, gO5], [⟨1, 0, 0, gT0, (.mk 22 16 0 ⟨#[]⟩ 0 [gT43]), gT0⟩], 0, 1, 1, 0⟩
def zf4 : MIns := ⟨⟨#[117, 108, 116]⟩, 64512, 47104, [gO1, gO8, gO5], [⟨1, 0, 0, gT0, (.mk 22 16 0 ⟨#[]⟩ 0 [gT44]), gT0⟩], 0, 1, 1, 0⟩
def zf5 : MIns := ⟨⟨#[115, 108, 116]⟩, 64512, 48128, [gO1, gO8, gO5], [⟨1, 0, 0, gT0, (.mk 22 16 0 ⟨#[]⟩ 0 [gT45]), gT0⟩], 0, 1, 1, 0⟩
def zf6 : MIns := ⟨⟨#[98, 114, 110, 122]⟩, 64512, 49152, [gO1, ⟨⟨#[116, 111]⟩, 4, 0, 0, [⟨0, 7⟩], (-1)⟩], [⟨3, 0, 0, gT0, gT10, (.mk 3 1 0 ⟨#[]⟩ 0 [(.mk 16 1 0 ⟨#[]⟩ 0 [gT14, gT11])])⟩], 0, 1, 1, 0⟩
def zoy : List MIns := [zhu, zhv, zhw, zhx, zhy, zhz, zi0, zi1, zi2, zi3, ze4, ze5, ze6, ze7, ze8, ze9, zea, zeb, zec, zed, zee, zef, zeg, zeh, zei, zej, zek, zel, zem, zen, zeo, zep, zeq, zer, zes, zet, zeu, zev, zew, zex, zey, zez, zf0, zf1, zf2, zf3, zf4, zf5, zf6]
def given1 : Mach := ⟨⟨#[102, 108, 97, 103, 115]⟩, 2, 16, zlp, zhj, zi5, zoy⟩
end Go.Proofs.YtjjfeddenhemhaaGreatDoor
