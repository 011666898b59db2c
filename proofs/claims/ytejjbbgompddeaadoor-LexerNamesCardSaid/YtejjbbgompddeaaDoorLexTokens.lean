/- token for all bytes; Tokens of package lexer. -/
import Derived.Test.YtejjbbgompddeaaDoorLexToken
namespace Go.Proofs.YtejjbbgompddeaaDoor
open Go.RowKit Go.Instr
set_option linter.unusedVariables false
set_option linter.unusedSimpArgs false

theorem en_name : ∀ (args : Array Value) (w : World), Sem.run Tryd.prog (callFunc 31 args) w = .ok (.enter 31 args) w := fun _ _ => by kernel_rfl
theorem en_number : ∀ (args : Array Value) (w : World), Sem.run Tryd.prog (callFunc 32 args) w = .ok (.enter 32 args) w := fun _ _ => by kernel_rfl
theorem en_quoted : ∀ (args : Array Value) (w : World), Sem.run Tryd.prog (callFunc 33 args) w = .ok (.enter 33 args) w := fun _ _ => by kernel_rfl
theorem en_mark : ∀ (args : Array Value) (w : World), Sem.run Tryd.prog (callFunc 34 args) w = .ok (.enter 34 args) w := fun _ _ => by kernel_rfl
theorem en_line : ∀ (args : Array Value) (w : World), Sem.run Tryd.prog (callFunc 35 args) w = .ok (.enter 35 args) w := fun _ _ => by kernel_rfl

set_option maxRecDepth 100000 in
/-- token where no form stands in the map. -/
theorem token_none (q r a M : Nat) (hq : findNow (.int .u8) (.int .u8 (q : Int)) (formsE r).toList 0 = some none) (bs : ByteArray) (w : World) (hr : RdAt w r bs a (some M)) (hF : FormsAt w r M) (hT : LaidOn w r) (hbs : bs.size ≤ 999999) (ha : a ≤ bs.size) (hcl : clsI bs.data.toList a = q) (hn : nextT (bs.data.toList.drop a) = none) :
    Calls Tryd.prog 20 #[.pointer (some ⟨r, 0, none⟩)] w fun e w' => TokGives (bs.data.toList.drop a) r a (some M) bs e w' ∧ w.grownBy w' (some r) := by
  have c0 := hr.c0
  have c1 := hr.c1
  have c2 := hr.c2
  have hlt := hr.lt
  have HC := Lib.hid (fun W (hb : Below w.heap.size w W) => class_any r a a (some M) bs W (hr.below hb) (hT W (grown_below hb)).cls (by omega) (by omega))
  rw [hcl] at HC
  have hlk : ∀ n, (Instr.lookup 44 (.map (some M)) (.int .u8 (q : Int)) false).run Tryd.prog ((w.alloc (.cells #[.int .u8 0, .string ⟨#[]⟩, .int .i64 0, .int .i64 0] 29)).drewN n) = .ok .nilFunc ((w.alloc (.cells #[.int .u8 0, .string ⟨#[]⟩, .int .i64 0, .int .i64 0] 29)).drewN n) := fun n =>
    look_none (c := 6) (es := formsE r) (hF.below (((Below.refl _ _).alloc (Nat.le_refl _) _).trans (drewN_below _ _ |>.mono (by simp)))) hq
  have hfe := nil_eql
  have HN := Lib.hid hn
  have HR := Lib.hid hr
  clear hr hF hT hbs ha hcl hq hn
  go_enter Tryd.func20, Tryd.ntmps20
  go_wp2
  go_quiet ((go_at_call 37; exact quiet_left (HC.out _ (((Below.refl _ _).alloc (Nat.le_refl _) _).trans (drewN_below _ _ |>.mono (by simp))))))
  go_wp2
  refine token_end (B := w.heap.size) rfl rfl (set4 (block_of_tok (drewN_below _ _)) _ _ _ _) ⟨?_, grown_below (tokOut (drewN_below _ _) _ _ _ _)⟩
  unfold TokGives
  rw [HN.out]
  exact ⟨rfl, HR.out.below (tokOut (drewN_below _ _) _ _ _ _)⟩

theorem form_3 : FormOf 3 31 := ⟨0, fun r => rfl⟩
theorem form_4 : FormOf 4 32 := ⟨1, fun r => rfl⟩
theorem form_6 : FormOf 6 32 := ⟨2, fun r => rfl⟩
theorem form_7 : FormOf 7 33 := ⟨3, fun r => rfl⟩
theorem form_8 : FormOf 8 34 := ⟨4, fun r => rfl⟩
theorem form_9 : FormOf 9 35 := ⟨5, fun r => rfl⟩
theorem form_none (q r : Nat) (h3 : q ≠ 3) (h4 : q ≠ 4) (h6 : q ≠ 6) (h7 : q ≠ 7) (h8 : q ≠ 8) (h9 : q ≠ 9) : findNow (.int .u8) (.int .u8 (q : Int)) (formsE r).toList 0 = some none := by
  have e3 : ((q : Int) == 3) = false := by simp; omega
  have e4 : ((q : Int) == 4) = false := by simp; omega
  have e6 : ((q : Int) == 6) = false := by simp; omega
  have e7 : ((q : Int) == 7) = false := by simp; omega
  have e8 : ((q : Int) == 8) = false := by simp; omega
  have e9 : ((q : Int) == 9) = false := by simp; omega
  simp only [formsE, findNow, sameNow, e3, e4, e6, e7, e8, e9, if_true]
theorem nextT_none {c : UInt8} {t : List UInt8} (h3 : cls c.toNat ≠ 3) (h4 : cls c.toNat ≠ 4) (h6 : cls c.toNat ≠ 6) (h7 : cls c.toNat ≠ 7) (h8 : cls c.toNat ≠ 8) (h9 : cls c.toNat ≠ 9) : nextT (c :: t) = none := by
  simp only [nextT]
  rw [if_neg h9, if_neg h8, if_neg h7, if_neg h3, if_neg (by omega)]
theorem drop_cons {l : List UInt8} {a : Nat} (h : a < l.length) : ∃ c t, l.drop a = c :: t ∧ l[a]? = some c := ⟨l[a], l.drop (a + 1), List.drop_eq_getElem_cons h, List.getElem?_eq_getElem h⟩

/-- token, at every place of every text. -/
theorem token_any (r a M : Nat) (bs : ByteArray) (w : World) (hr : RdAt w r bs a (some M)) (hF : FormsAt w r M) (hT : LaidOn w r) (hbs : bs.size ≤ 999999) (ha : a ≤ bs.size) :
    Calls Tryd.prog 20 #[.pointer (some ⟨r, 0, none⟩)] w fun e w' => TokGives (bs.data.toList.drop a) r a (some M) bs e w' ∧ w.grownBy w' (some r) := by
  have hl : bs.data.toList.length = bs.size := rfl
  by_cases hlt : a < bs.size
  · obtain ⟨c, t, hd, hc⟩ := drop_cons (l := bs.data.toList) (a := a) (by omega)
    have hcl := clsI_at hc
    have hW : ∀ W, Below w.heap.size w W → RdAt W r bs a (some M) ∧ LaidAt W := fun W hb => ⟨hr.below hb, hT W (grown_below hb)⟩
    by_cases h3 : cls c.toNat = 3
    · exact token_form _ 3 r a M form_3 en_name bs w hr hF hT hbs hlt (hcl.trans h3) (fun W hb => nameForm_any r a _ bs W (hW W hb).1 (hW W hb).2 hbs hlt c t hd h3)
    by_cases h4 : cls c.toNat = 4
    · exact token_form _ 4 r a M form_4 en_number bs w hr hF hT hbs hlt (hcl.trans h4) (fun W hb => number_any r a _ bs W (hW W hb).1 (hW W hb).2 hbs hlt c t hd (.inl h4))
    by_cases h6 : cls c.toNat = 6
    · exact token_form _ 6 r a M form_6 en_number bs w hr hF hT hbs hlt (hcl.trans h6) (fun W hb => number_any r a _ bs W (hW W hb).1 (hW W hb).2 hbs hlt c t hd (.inr h6))
    by_cases h7 : cls c.toNat = 7
    · exact token_form _ 7 r a M form_7 en_quoted bs w hr hF hT hbs hlt (hcl.trans h7) (fun W hb => quoted_any r a _ bs W (hW W hb).1 hbs hlt c t hd h7)
    by_cases h8 : cls c.toNat = 8
    · exact token_form _ 8 r a M form_8 en_mark bs w hr hF hT hbs hlt (hcl.trans h8) (fun W hb => mark_any r a _ bs W (hW W hb).1 hbs hlt c t hd h8)
    by_cases h9 : cls c.toNat = 9
    · exact token_form _ 9 r a M form_9 en_line bs w hr hF hT hbs hlt (hcl.trans h9) (fun W hb => line_any r a _ bs W (hW W hb).1 hbs hlt c t hd h9)
    exact token_none (cls c.toNat) r a M (form_none _ r h3 h4 h6 h7 h8 h9) bs w hr hF hT hbs ha hcl (by rw [hd]; exact nextT_none h3 h4 h6 h7 h8 h9)
  · exact token_none 0 r a M (form_none 0 r (by decide) (by decide) (by decide) (by decide) (by decide) (by decide)) bs w hr hF hT hbs ha (clsI_out (by omega)) (by rw [List.drop_of_length_le (by omega)]; rfl)
end Go.Proofs.YtejjbbgompddeaaDoor
