/-
  NARROWER THAN 'FOR EVERY INPUT', by the rows' own cells (each row's printed sentence says how): EncodeBack: loops, laid · EncodeDiffers: loops, laid · EncodeRefuses: loops, laid.
  DERIVED. THE GIVEN ROWS OF THIS SEAT. 3 by the template 'for every input the law returns true; each argument reads behind the call as it read before'; 0 by the template 'total and deterministic' (their statements: YtofhpahihneipaaGreatDoorTotals.lean).
  GIVEN WITH THE SEED: the statements are not yours to turn. If you find one false, say at which input.
  Laid BY PROGRAM, IN A SANDBOX (cutbox-rows.mjs): the forced cells as the released guide's own fill.sh prints them over the translation b03f0b3dafba2b75… (all of the seat's roots in one cut). By AI agents, Wed Nov 11 2026. No macro, syntax, notation, axiom, sorry.
-/
import Derived.Test.YtofhpahihneipaaGreatDoorChecked
import GoSem.Claim
import GoSem.ClaimJoined
import GoSem.ClaimMapViews
import Derived.JoinedTies
import Derived.KernelRfl
namespace Go.Proofs.YtofhpahihneipaaGreatDoor
/- THE CELL 'sum', in the pinned program and in every row, IS THE sha256 OF THE DUMP (.gsa) THAT YtofhpahihneipaaGreatDoorProg.lean LOADS. Nothing in Lean hashes anything: it is a label: what it is worth is what the hold of that sum in a sandbox is worth. -/
noncomputable def Tryz.pinned : Pinned := { name := "ytofhpahihneipaagreatdoor", sum := "b03f0b3dafba2b75e9a9b17745cdc9ab4f156a30ae36fac08061e48b07fedb3d", checked := Tryz.checked }
namespace Rows
def none {H : Type} : Left H := { results := [], args := [] }

/- WHAT THE LISTED PACKAGE-LEVEL VARIABLES READ AS WHEN THE CALL BEGINS. Each datum BY PROGRAM (the guide's laid-datum.mjs) off the statement by which the dump's own 'gosem.cut.vars' lays the variable. In a bare row this is a premise. The card (YtofhpahihneipaaGreatDoorCards.lean) ties it to the program's text. -/
def laid_retarget_term_shapes {H : Type} : DataW H := .agg [.agg [.lit (.string []), .lit (.int .i64 0)], .agg [.lit (.string []), .lit (.int .i64 0)], .agg [.lit (.string []), .lit (.int .i64 0)], .agg [.lit (.string [110, 111, 116]), .lit (.int .i64 1)], .agg [.lit (.string [110, 101, 103]), .lit (.int .i64 1)], .agg [.lit (.string [97, 100, 100]), .lit (.int .i64 2)], .agg [.lit (.string [115, 117, 98]), .lit (.int .i64 2)], .agg [.lit (.string [109, 117, 108]), .lit (.int .i64 2)], .agg [.lit (.string [97, 110, 100]), .lit (.int .i64 2)], .agg [.lit (.string [111, 114]), .lit (.int .i64 2)], .agg [.lit (.string [120, 111, 114]), .lit (.int .i64 2)], .agg [.lit (.string [115, 104, 108]), .lit (.int .i64 2)], .agg [.lit (.string [115, 104, 114]), .lit (.int .i64 2)], .agg [.lit (.string [115, 97, 114]), .lit (.int .i64 2)], .agg [.lit (.string [117, 100, 105, 118]), .lit (.int .i64 2)], .agg [.lit (.string [117, 114, 101, 109]), .lit (.int .i64 2)], .agg [.lit (.string [101, 113]), .lit (.int .i64 2)], .agg [.lit (.string [117, 108, 116]), .lit (.int .i64 2)], .agg [.lit (.string [115, 108, 116]), .lit (.int .i64 2)], .agg [.lit (.string [105, 116, 101]), .lit (.int .i64 3)], .agg [.lit (.string [99, 111, 110, 99, 97, 116]), .lit (.int .i64 2)], .agg [.lit (.string [101, 120, 116, 114, 97, 99, 116]), .lit (.int .i64 1)], .agg [.lit (.string [122, 101, 120, 116]), .lit (.int .i64 1)], .agg [.lit (.string [115, 101, 120, 116]), .lit (.int .i64 1)], .agg [.lit (.string [108, 111, 97, 100]), .lit (.int .i64 1)]]

/-- 'retargetlaw12.EncodeBack': WHATEVER THE INPUT: true; the input reads as it did. -/
def encodeBackSpec : ChangeSpec := { name := "encodeBack", fn := fun _ => fun
  | [d1, d2, d3] => { results := [.lit (.bool true)], args := [d1, d2, d3] }
  | _ => none }
def encodeBackRow : OpenClaim := { program := "ytofhpahihneipaagreatdoor", sum := "b03f0b3dafba2b75e9a9b17745cdc9ab4f156a30ae36fac08061e48b07fedb3d", func := "retarget/retargetlaw12.EncodeBack", spec := "encodeBack", unfollowed := true, recurses := true, named := ["retarget/term.shapes"], loops := true, apart := false, laid := [("retarget/term.shapes", laid_retarget_term_shapes)] }
def EncodeBackSaid : Prop := encodeBackRow.holds Tryz.pinned (OpenSpec.ofChange encodeBackSpec)

/-- ITS FALSE NEIGHBOUR: 'it returns false'. Refute it at one input. -/
def encodeBackWrong : ChangeSpec := { name := "encodeBack", fn := fun _ => fun
  | [d1, d2, d3] => { results := [.lit (.bool false)], args := [d1, d2, d3] }
  | _ => none }
def EncodeBackWrongFalsely : Prop := encodeBackRow.holds Tryz.pinned (OpenSpec.ofChange encodeBackWrong)

/-- 'retargetlaw12.EncodeDiffers': WHATEVER THE INPUT: true; the input reads as it did. -/
def encodeDiffersSpec : ChangeSpec := { name := "encodeDiffers", fn := fun _ => fun
  | [d1, d2, d3] => { results := [.lit (.bool true)], args := [d1, d2, d3] }
  | _ => none }
def encodeDiffersRow : OpenClaim := { program := "ytofhpahihneipaagreatdoor", sum := "b03f0b3dafba2b75e9a9b17745cdc9ab4f156a30ae36fac08061e48b07fedb3d", func := "retarget/retargetlaw12.EncodeDiffers", spec := "encodeDiffers", unfollowed := true, recurses := true, named := ["retarget/term.shapes"], loops := true, apart := false, laid := [("retarget/term.shapes", laid_retarget_term_shapes)] }
def EncodeDiffersSaid : Prop := encodeDiffersRow.holds Tryz.pinned (OpenSpec.ofChange encodeDiffersSpec)

/-- ITS FALSE NEIGHBOUR: 'it returns false'. Refute it at one input. -/
def encodeDiffersWrong : ChangeSpec := { name := "encodeDiffers", fn := fun _ => fun
  | [d1, d2, d3] => { results := [.lit (.bool false)], args := [d1, d2, d3] }
  | _ => none }
def EncodeDiffersWrongFalsely : Prop := encodeDiffersRow.holds Tryz.pinned (OpenSpec.ofChange encodeDiffersWrong)

/-- 'retargetlaw12.EncodeRefuses': WHATEVER THE INPUT: true; the input reads as it did. -/
def encodeRefusesSpec : ChangeSpec := { name := "encodeRefuses", fn := fun _ => fun
  | [d1, d2] => { results := [.lit (.bool true)], args := [d1, d2] }
  | _ => none }
def encodeRefusesRow : OpenClaim := { program := "ytofhpahihneipaagreatdoor", sum := "b03f0b3dafba2b75e9a9b17745cdc9ab4f156a30ae36fac08061e48b07fedb3d", func := "retarget/retargetlaw12.EncodeRefuses", spec := "encodeRefuses", unfollowed := true, recurses := true, named := ["retarget/term.shapes"], loops := true, apart := false, laid := [("retarget/term.shapes", laid_retarget_term_shapes)] }
def EncodeRefusesSaid : Prop := encodeRefusesRow.holds Tryz.pinned (OpenSpec.ofChange encodeRefusesSpec)

/-- ITS FALSE NEIGHBOUR: 'it returns false'. Refute it at one input. -/
def encodeRefusesWrong : ChangeSpec := { name := "encodeRefuses", fn := fun _ => fun
  | [d1, d2] => { results := [.lit (.bool false)], args := [d1, d2] }
  | _ => none }
def EncodeRefusesWrongFalsely : Prop := encodeRefusesRow.holds Tryz.pinned (OpenSpec.ofChange encodeRefusesWrong)

/- THE SECOND FORM. 'bulk': how many values and letters a reading holds, each counted each time it is reached (what is shared counts as often as it is met; a slice's spare places count too). A statement '..UptoSaid' is the law's where the arguments, and the package variables that the reading takes, are together of bulk at most 1048576: NARROWER than '..Said'. Prove '..Said' where nothing that the law and all that it calls make is longer than what came in: it says more and counts as full. Else prove '..UptoSaid'. A law counts once. -/
mutual
def uptoBulk {H : Type} : DataW H → Nat
  | .lit (.string bytes) => bytes.length + 1
  | .lit _ => 1
  | .nil => 1
  | .ptr d => uptoBulk d + 1
  | .slice elems spare => uptoBulkAll elems + uptoBulkAll spare + 1
  | .agg parts => uptoBulkAll parts + 1
  | .iface _ d => uptoBulk d + 1
  | .map entries => uptoBulkEntries entries + 1
  | .held _ => 1
def uptoBulkAll {H : Type} : List (DataW H) → Nat
  | [] => 0
  | d :: r => uptoBulk d + uptoBulkAll r
def uptoBulkEntries {H : Type} : List (Lit × DataW H) → Nat
  | [] => 0
  | x :: r => uptoBulkEntry x + uptoBulkEntries r
def uptoBulkEntry {H : Type} : Lit × DataW H → Nat
  | (.string bytes, d) => bytes.length + uptoBulk d + 1
  | (_, d) => uptoBulk d + 1
 end
def uptoSmall : (H : Type) → List (DataW H) → Bool := fun _ ds => decide (uptoBulkAll ds ≤ 1048576)
def OpenSpec.upto (s : _root_.Go.ChangeSpec) : _root_.Go.OpenSpec := { _root_.Go.OpenSpec.ofChange s with cond := some uptoSmall }

/-- 'retargetlaw12.EncodeBack', WHERE WHAT IT READS IS OF BULK AT MOST 1048576: true; the input reads as it did. -/
def encodeBackUptoRow : OpenClaim := { program := "ytofhpahihneipaagreatdoor", sum := "b03f0b3dafba2b75e9a9b17745cdc9ab4f156a30ae36fac08061e48b07fedb3d", func := "retarget/retargetlaw12.EncodeBack", spec := "encodeBack", unfollowed := true, recurses := true, named := ["retarget/term.shapes"], loops := true, apart := false, laid := [("retarget/term.shapes", laid_retarget_term_shapes)], narrowed := true }
def EncodeBackUptoSaid : Prop := encodeBackUptoRow.holds Tryz.pinned (OpenSpec.upto encodeBackSpec)

/-- 'retargetlaw12.EncodeDiffers', WHERE WHAT IT READS IS OF BULK AT MOST 1048576: true; the input reads as it did. -/
def encodeDiffersUptoRow : OpenClaim := { program := "ytofhpahihneipaagreatdoor", sum := "b03f0b3dafba2b75e9a9b17745cdc9ab4f156a30ae36fac08061e48b07fedb3d", func := "retarget/retargetlaw12.EncodeDiffers", spec := "encodeDiffers", unfollowed := true, recurses := true, named := ["retarget/term.shapes"], loops := true, apart := false, laid := [("retarget/term.shapes", laid_retarget_term_shapes)], narrowed := true }
def EncodeDiffersUptoSaid : Prop := encodeDiffersUptoRow.holds Tryz.pinned (OpenSpec.upto encodeDiffersSpec)

/-- 'retargetlaw12.EncodeRefuses', WHERE WHAT IT READS IS OF BULK AT MOST 1048576: true; the input reads as it did. -/
def encodeRefusesUptoRow : OpenClaim := { program := "ytofhpahihneipaagreatdoor", sum := "b03f0b3dafba2b75e9a9b17745cdc9ab4f156a30ae36fac08061e48b07fedb3d", func := "retarget/retargetlaw12.EncodeRefuses", spec := "encodeRefuses", unfollowed := true, recurses := true, named := ["retarget/term.shapes"], loops := true, apart := false, laid := [("retarget/term.shapes", laid_retarget_term_shapes)], narrowed := true }
def EncodeRefusesUptoSaid : Prop := encodeRefusesUptoRow.holds Tryz.pinned (OpenSpec.upto encodeRefusesSpec)

end Rows
end Go.Proofs.YtofhpahihneipaaGreatDoor
