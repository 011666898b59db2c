import Derived.Test.YtofhpahihneipaaGreatDoorQTurned
import Derived.BigQuiet
set_option linter.unusedVariables false
set_option linter.unusedSimpArgs false
set_option warningAsError false
set_option maxHeartbeats 4000000
open Go.Lib (hid)
open Go.Proofs.Tryz (prog)
namespace Go.Proofs.YtofhpahihneipaaGreatDoor
open Go.RowKit Go.Instr Go.Sort Go.Lib
set_option maxRecDepth 100000
theorem zed {α:Type} {L:List α} {k:Nat} {x:α} (h:L[k]? =some x):L.drop k=x::L.drop (k+1):=by
 have hl:=(List.getElem?_eq_some_iff.1 h).1;rw [List.drop_eq_getElem_cons hl]
 congr 1
 exact Option.some.inj ((List.getElem?_eq_getElem _).symm.trans h)
theorem zhn (w : World) (v v' : Value) (L L' : List Int) (hr : zd 1 intE w v L) (hr' : zd 1 intE w v' L') (hL : L.length <= 1000000) (hL' : L'.length <= 1000000) :
 Calls prog 29 #[v, v'] w fun e w' => e = .returned (.bool (decide (L = L'))) /\ Below w.heap.size w w' := by
 have HR := hid hr;have HR' := hid hr';obtain ⟨A, c, rfl, _⟩ := hr;obtain ⟨A', c', rfl, _⟩ := hr';obtain ⟨n, hn⟩ : ∃ n, L.length = n := ⟨_, rfl⟩;obtain ⟨n', hn'⟩ : ∃ n, L'.length = n := ⟨_, rfl⟩;obtain ⟨r, hrr⟩ : ∃ r, decide (L = L') = r := ⟨_, rfl⟩;rw [hn] at HR hL ⊢;rw [hn'] at HR' hL' ⊢;rw [hrr];have HN := hid hn;have HN' := hid hn';by_cases hne : n = n'
 ·subst hne;have hg : ((n : Int) != (n : Int)) = false := by simp
  have HRR := hid hrr;clear hn hn' hrr;go_enter Tryz.func29, Tryz.ntmps29
  go_wp2
  go_loopw [5] (fun vi wr => ∃ k : Nat, vi = .int .i64 k /\ k <= n /\ Hid (Below w.heap.size w wr /\ decide (L.drop k = L'.drop k) = r)) (fun vi _ => n - (intOf vi).toNat)
  case atStart => exact ⟨0, rfl, by omega, hid ⟨Below.refl _ _, by rw [List.drop_zero, List.drop_zero]; exact HRR.out⟩⟩
  case round =>
   obtain ⟨k, rfl, hk, HB⟩ := hrel;by_cases hlt : k < n
   ·obtain ⟨x, hx⟩ : ∃ x, L[k]? = some x := ⟨_, List.getElem?_eq_getElem (by rw [HN.out]; exact hlt)⟩;obtain ⟨y, hy⟩ : ∃ y, L'[k]? = some y := ⟨_, List.getElem?_eq_getElem (by rw [HN'.out]; exact hlt)⟩;have hbw := HB.out.1;obtain ⟨A1, c1, e1, _, _, _, hall⟩ := HR.out.kept (fun cs x hx => intE.kept hx hbw) hbw;obtain ⟨A2, c2, e2, _, _, _, hall'⟩ := HR'.out.kept (fun cs x hx => intE.kept hx hbw) hbw;obtain ⟨b, o, cs, e3, hb, _, hcell, hE⟩ := hall k x hx;obtain ⟨b', o', cs', e4, hb', _, hcell', hE'⟩ := hall' k y hy;obtain ⟨rfl, _⟩ := hE;obtain ⟨rfl, _⟩ := hE';obtain ⟨rfl, rfl⟩ : A = A1 /\ c = c1 := by cases e1; exact ⟨rfl, rfl⟩
    obtain ⟨rfl, rfl⟩ : A' = A2 /\ c' = c2 := by cases e2; exact ⟨rfl, rfl⟩
    clear e1 e2;subst e3;subst e4;have x0 : wr.cell? ⟨b, o + k, none⟩ = some (.int .i64 x) := (by simpa using hcell 0 _ rfl);have x1 : wr.cell? ⟨b', o' + k, none⟩ = some (.int .i64 y) := (by simpa using hcell' 0 _ rfl);have hj0 : (0 : Int) <= (k : Int) := Int.natCast_nonneg _;have hj1 : (k : Int) < (n : Int) := (by omega);have hk6 : (k : Int) <= 1000000 := (by omega);have hd := HB.out.2;rw [zed hx, zed hy] at hd;have HLT := hid hlt;have HBW := hid hbw;by_cases hxy : x = y
    ·have h0 : (x != y) = false := (by simp [hxy]);have HD := hid (show decide (L.drop (k + 1) = L'.drop (k + 1)) = r by rw [<- hd, hxy]; simp);clear hd hx hy hall hall' hcell hcell' hb hb' hxy hbw HB hlt;go_wp2
     go_quiet (fail)
     go_wp2
     go_roundw
     case rel => exact ⟨k + 1, by first | rfl | go_num, by have := HLT.out; omega, hid ⟨HBW.out.trans (z38 _ _ _), HD.out⟩⟩
     case measure => simp only [intOf]; have := HLT.out; omega
    ·have h0 : (x != y) = true := (by simp [hxy]);have HD := hid (show r = false by rw [<- hd]; simp [hxy]);clear hd hx hy hall hall' hcell hcell' hb hb' hxy hbw HB hlt;go_wp2
     go_quiet (fail)
     go_wp2
     go_ret
     exact ⟨by rw [HD.out]; rfl, HBW.out.trans (z38 _ _ _)⟩
   ·obtain rfl : k = n := by omega
    have HD := hid (show r = true by rw [<- HB.out.2, List.drop_eq_nil_of_le (by rw [HN.out]; exact Nat.le_refl _), List.drop_eq_nil_of_le (by rw [HN'.out]; exact Nat.le_refl _)]; simp);have HBW := hid HB.out.1;have hj1 : ¬ (k : Int) < (k : Int) := (by omega);clear HB hlt;go_wp2
    go_ret
    exact ⟨by rw [HD.out]; rfl, HBW.out⟩
 ·have hg : ((n : Int) != (n' : Int)) = true := by simp; omega
  have HD := hid (show r = false by rw [<- hrr, decide_eq_false_iff_not]; intro h; apply hne; rw [<- hn, <- hn', h]);have HB := hid (Below.refl w.heap.size w);clear hn hn' hrr hne;go_enter Tryz.func29, Tryz.ntmps29
  go_wp2
  go_ret
  exact ⟨by rw [HD.out]; rfl, HB.out⟩
theorem z8l (w:World) (z z':Int) (s s':Value) (L L':List Int) (hr:zd 1 intE w s L) (hr':zd 1 intE w s' L') (hL:L.length<=1000000) (hL':L'.length<=1000000):
 Calls prog 12 #[.agg #[.int .i64 z,s],.agg #[.int .i64 z',s']] w fun e w'=>e=.returned (.bool (decide (z=z')&&decide (L=L')))/\Below w.heap.size w w':=by
 obtain ⟨A,c,rfl,_⟩:=id hr;obtain ⟨A',c',rfl,_⟩:=id hr';obtain ⟨n,hn⟩:∃ n,L.length=n:=⟨_,rfl⟩;obtain ⟨n',hn'⟩:∃ n,L'.length=n:=⟨_,rfl⟩;rw [hn] at hr ⊢;rw [hn'] at hr' ⊢;obtain ⟨W2,hW2⟩:∃ W2,W2=(w.alloc (.cells #[.int .i64 z,.slice A n c] 30)).alloc (.cells #[.int .i64 z',.slice A' n' c'] 30):=⟨_,rfl⟩;have hb2:Below w.heap.size w W2:=by rw [hW2];exact ((Below.refl _ _).alloc (Nat.le_refl _) _).alloc (by simp) _
 have HS:=hid ((zhn W2 _ _ L L' (hr.kept (fun cs x hx=>intE.kept hx hb2) hb2) (hr'.kept (fun cs x hx=>intE.kept hx hb2) hb2) hL hL').mono (R':=fun e w'=>e=.returned (.bool (decide (L=L')))/\Below w.heap.size w w') fun e w' ⟨g1,g2⟩=>⟨g1,hb2.trans (g2.mono hb2.size)⟩);obtain ⟨d,hd⟩:∃ d,decide (L=L')=d:=⟨_,rfl⟩;rw [hd] at HS ⊢;have HB2:=hid hb2;rw [hW2] at HS HB2;by_cases hz:z=z'
 ·have hg:(z==z')=true:=by simp [hz]
  have e:(decide (z=z')&&d)=d:=by simp [hz]
  rw [e];clear hr hr' hn hn' hW2 hb2 hd hL hL' e hz;go_enter Tryz.func12,Tryz.ntmps12
  go_wp2_with (go_at_call 29;(with_reducible refine HS.out.mono ?_);rintro e w3 ⟨rfl,hb3⟩)
  exact bodyPost_ret (v:=.bool d) (by simp [results,Tryz.results12,go_sem]) rfl ⟨rfl,hb3⟩
 ·have hg:(z==z')=false:=by simp [hz]
  have e:(decide (z=z')&&d)=false:=by simp [hz]
  rw [e];clear hr hr' hn hn' hW2 hb2 hd hL hL' e hz;go_enter Tryz.func12,Tryz.ntmps12
  go_wp2_with (go_at_call 29;(with_reducible refine HS.out.mono ?_);rintro e w3 ⟨rfl,hb3⟩)
  exact bodyPost_ret (v:=.bool false) (by simp [results,Tryz.results12,go_sem]) rfl ⟨rfl,HB2.out⟩
end Go.Proofs.YtofhpahihneipaaGreatDoor
