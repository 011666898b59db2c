/-
  NARROWER THAN 'FOR EVERY INPUT', by the rows' own cells (each row's printed sentence says how): AmbiguousTells: loops, laid · AmbiguousPairs: loops, laid · AmbiguousHoles: loops, laid · AmbiguousOwners: loops, laid · AmbiguousAll: loops, laid · AmbiguousSelf: loops, laid · AmbiguousSpans: loops, laid.
  DERIVED. THE GIVEN ROWS OF THIS SEAT. 7 by the template 'for every input the law returns true; each argument reads behind the call as it read before'; 0 by the template 'total and deterministic' (their statements: YtnjlgllpfbkdoaaGreatDoorTotals.lean).
  GIVEN WITH THE SEED: the statements are not yours to turn. If you find one false, say at which input.
  Laid BY PROGRAM, IN A SANDBOX (cutbox-rows.mjs): the forced cells as the released guide's own fill.sh prints them over the translation ef833b52853032c3… (all of the seat's roots in one cut). By AI agents, Wed Nov 11 2026. No macro, syntax, notation, axiom, sorry.
-/
import Derived.Test.YtnjlgllpfbkdoaaGreatDoorChecked
import GoSem.Claim
import GoSem.ClaimJoined
import GoSem.ClaimMapViews
import Derived.JoinedTies
import Derived.KernelRfl
namespace Go.Proofs.YtnjlgllpfbkdoaaGreatDoor
/- THE CELL 'sum', in the pinned program and in every row, IS THE sha256 OF THE DUMP (.gsa) THAT YtnjlgllpfbkdoaaGreatDoorProg.lean LOADS. Nothing in Lean hashes anything: it is a label: what it is worth is what the hold of that sum in a sandbox is worth. -/
noncomputable def Tryz.pinned : Pinned := { name := "ytnjlgllpfbkdoaagreatdoor", sum := "ef833b52853032c37ffb1c638b16d996286efbe11b8fd42e6bfae38c4378baea", checked := Tryz.checked }
namespace Rows
def none {H : Type} : Left H := { results := [], args := [] }

/- WHAT THE LISTED PACKAGE-LEVEL VARIABLES READ AS WHEN THE CALL BEGINS. Each datum BY PROGRAM (the guide's laid-datum.mjs) off the statement by which the dump's own 'gosem.cut.vars' lays the variable. In a bare row this is a premise. The card (YtnjlgllpfbkdoaaGreatDoorCards.lean) ties it to the program's text. -/
def laid_retarget_term_shapes {H : Type} : DataW H := .agg [.agg [.lit (.string []), .lit (.int .i64 0)], .agg [.lit (.string []), .lit (.int .i64 0)], .agg [.lit (.string []), .lit (.int .i64 0)], .agg [.lit (.string [110, 111, 116]), .lit (.int .i64 1)], .agg [.lit (.string [110, 101, 103]), .lit (.int .i64 1)], .agg [.lit (.string [97, 100, 100]), .lit (.int .i64 2)], .agg [.lit (.string [115, 117, 98]), .lit (.int .i64 2)], .agg [.lit (.string [109, 117, 108]), .lit (.int .i64 2)], .agg [.lit (.string [97, 110, 100]), .lit (.int .i64 2)], .agg [.lit (.string [111, 114]), .lit (.int .i64 2)], .agg [.lit (.string [120, 111, 114]), .lit (.int .i64 2)], .agg [.lit (.string [115, 104, 108]), .lit (.int .i64 2)], .agg [.lit (.string [115, 104, 114]), .lit (.int .i64 2)], .agg [.lit (.string [115, 97, 114]), .lit (.int .i64 2)], .agg [.lit (.string [117, 100, 105, 118]), .lit (.int .i64 2)], .agg [.lit (.string [117, 114, 101, 109]), .lit (.int .i64 2)], .agg [.lit (.string [101, 113]), .lit (.int .i64 2)], .agg [.lit (.string [117, 108, 116]), .lit (.int .i64 2)], .agg [.lit (.string [115, 108, 116]), .lit (.int .i64 2)], .agg [.lit (.string [105, 116, 101]), .lit (.int .i64 3)], .agg [.lit (.string [99, 111, 110, 99, 97, 116]), .lit (.int .i64 2)], .agg [.lit (.string [101, 120, 116, 114, 97, 99, 116]), .lit (.int .i64 1)], .agg [.lit (.string [122, 101, 120, 116]), .lit (.int .i64 1)], .agg [.lit (.string [115, 101, 120, 116]), .lit (.int .i64 1)], .agg [.lit (.string [108, 111, 97, 100]), .lit (.int .i64 1)]]

/-- 'retargetlaw11.AmbiguousTells': WHATEVER THE INPUT: true; the input reads as it did. -/
def ambiguousTellsSpec : ChangeSpec := { name := "ambiguousTells", fn := fun _ => fun
  | [d1, d2, d3] => { results := [.lit (.bool true)], args := [d1, d2, d3] }
  | _ => none }
def ambiguousTellsRow : OpenClaim := { program := "ytnjlgllpfbkdoaagreatdoor", sum := "ef833b52853032c37ffb1c638b16d996286efbe11b8fd42e6bfae38c4378baea", func := "retarget/retargetlaw11.AmbiguousTells", spec := "ambiguousTells", unfollowed := true, recurses := true, named := ["retarget/term.shapes"], loops := true, apart := false, laid := [("retarget/term.shapes", laid_retarget_term_shapes)] }
def AmbiguousTellsSaid : Prop := ambiguousTellsRow.holds Tryz.pinned (OpenSpec.ofChange ambiguousTellsSpec)

/-- ITS FALSE NEIGHBOUR: 'it returns false'. Refute it at one input. -/
def ambiguousTellsWrong : ChangeSpec := { name := "ambiguousTells", fn := fun _ => fun
  | [d1, d2, d3] => { results := [.lit (.bool false)], args := [d1, d2, d3] }
  | _ => none }
def AmbiguousTellsWrongFalsely : Prop := ambiguousTellsRow.holds Tryz.pinned (OpenSpec.ofChange ambiguousTellsWrong)

/-- 'retargetlaw11.AmbiguousPairs': WHATEVER THE INPUT: true; the input reads as it did. -/
def ambiguousPairsSpec : ChangeSpec := { name := "ambiguousPairs", fn := fun _ => fun
  | [d1, d2, d3] => { results := [.lit (.bool true)], args := [d1, d2, d3] }
  | _ => none }
def ambiguousPairsRow : OpenClaim := { program := "ytnjlgllpfbkdoaagreatdoor", sum := "ef833b52853032c37ffb1c638b16d996286efbe11b8fd42e6bfae38c4378baea", func := "retarget/retargetlaw11.AmbiguousPairs", spec := "ambiguousPairs", unfollowed := true, recurses := true, named := ["retarget/term.shapes"], loops := true, apart := false, laid := [("retarget/term.shapes", laid_retarget_term_shapes)] }
def AmbiguousPairsSaid : Prop := ambiguousPairsRow.holds Tryz.pinned (OpenSpec.ofChange ambiguousPairsSpec)

/-- ITS FALSE NEIGHBOUR: 'it returns false'. Refute it at one input. -/
def ambiguousPairsWrong : ChangeSpec := { name := "ambiguousPairs", fn := fun _ => fun
  | [d1, d2, d3] => { results := [.lit (.bool false)], args := [d1, d2, d3] }
  | _ => none }
def AmbiguousPairsWrongFalsely : Prop := ambiguousPairsRow.holds Tryz.pinned (OpenSpec.ofChange ambiguousPairsWrong)

/-- 'retargetlaw11.AmbiguousHoles': WHATEVER THE INPUT: true; the input reads as it did. -/
def ambiguousHolesSpec : ChangeSpec := { name := "ambiguousHoles", fn := fun _ => fun
  | [d1, d2, d3, d4] => { results := [.lit (.bool true)], args := [d1, d2, d3, d4] }
  | _ => none }
def ambiguousHolesRow : OpenClaim := { program := "ytnjlgllpfbkdoaagreatdoor", sum := "ef833b52853032c37ffb1c638b16d996286efbe11b8fd42e6bfae38c4378baea", func := "retarget/retargetlaw11.AmbiguousHoles", spec := "ambiguousHoles", unfollowed := true, recurses := true, named := ["retarget/term.shapes"], loops := true, apart := false, laid := [("retarget/term.shapes", laid_retarget_term_shapes)] }
def AmbiguousHolesSaid : Prop := ambiguousHolesRow.holds Tryz.pinned (OpenSpec.ofChange ambiguousHolesSpec)

/-- ITS FALSE NEIGHBOUR: 'it returns false'. Refute it at one input. -/
def ambiguousHolesWrong : ChangeSpec := { name := "ambiguousHoles", fn := fun _ => fun
  | [d1, d2, d3, d4] => { results := [.lit (.bool false)], args := [d1, d2, d3, d4] }
  | _ => none }
def AmbiguousHolesWrongFalsely : Prop := ambiguousHolesRow.holds Tryz.pinned (OpenSpec.ofChange ambiguousHolesWrong)

/-- 'retargetlaw11.AmbiguousOwners': WHATEVER THE INPUT: true; the input reads as it did. -/
def ambiguousOwnersSpec : ChangeSpec := { name := "ambiguousOwners", fn := fun _ => fun
  | [d1, d2] => { results := [.lit (.bool true)], args := [d1, d2] }
  | _ => none }
def ambiguousOwnersRow : OpenClaim := { program := "ytnjlgllpfbkdoaagreatdoor", sum := "ef833b52853032c37ffb1c638b16d996286efbe11b8fd42e6bfae38c4378baea", func := "retarget/retargetlaw11.AmbiguousOwners", spec := "ambiguousOwners", unfollowed := true, recurses := true, named := ["retarget/term.shapes"], loops := true, apart := false, laid := [("retarget/term.shapes", laid_retarget_term_shapes)] }
def AmbiguousOwnersSaid : Prop := ambiguousOwnersRow.holds Tryz.pinned (OpenSpec.ofChange ambiguousOwnersSpec)

/-- ITS FALSE NEIGHBOUR: 'it returns false'. Refute it at one input. -/
def ambiguousOwnersWrong : ChangeSpec := { name := "ambiguousOwners", fn := fun _ => fun
  | [d1, d2] => { results := [.lit (.bool false)], args := [d1, d2] }
  | _ => none }
def AmbiguousOwnersWrongFalsely : Prop := ambiguousOwnersRow.holds Tryz.pinned (OpenSpec.ofChange ambiguousOwnersWrong)

/-- 'retargetlaw11.AmbiguousAll': WHATEVER THE INPUT: true; the input reads as it did. -/
def ambiguousAllSpec : ChangeSpec := { name := "ambiguousAll", fn := fun _ => fun
  | [d] => { results := [.lit (.bool true)], args := [d] }
  | _ => none }
def ambiguousAllRow : OpenClaim := { program := "ytnjlgllpfbkdoaagreatdoor", sum := "ef833b52853032c37ffb1c638b16d996286efbe11b8fd42e6bfae38c4378baea", func := "retarget/retargetlaw11.AmbiguousAll", spec := "ambiguousAll", unfollowed := true, recurses := true, named := ["retarget/term.shapes"], loops := true, apart := false, laid := [("retarget/term.shapes", laid_retarget_term_shapes)] }
def AmbiguousAllSaid : Prop := ambiguousAllRow.holds Tryz.pinned (OpenSpec.ofChange ambiguousAllSpec)

/-- ITS FALSE NEIGHBOUR: 'it returns false'. Refute it at one input. -/
def ambiguousAllWrong : ChangeSpec := { name := "ambiguousAll", fn := fun _ => fun
  | [d] => { results := [.lit (.bool false)], args := [d] }
  | _ => none }
def AmbiguousAllWrongFalsely : Prop := ambiguousAllRow.holds Tryz.pinned (OpenSpec.ofChange ambiguousAllWrong)

/-- 'retargetlaw11.AmbiguousSelf': WHATEVER THE INPUT: true; the input reads as it did. -/
def ambiguousSelfSpec : ChangeSpec := { name := "ambiguousSelf", fn := fun _ => fun
  | [d1, d2, d3] => { results := [.lit (.bool true)], args := [d1, d2, d3] }
  | _ => none }
def ambiguousSelfRow : OpenClaim := { program := "ytnjlgllpfbkdoaagreatdoor", sum := "ef833b52853032c37ffb1c638b16d996286efbe11b8fd42e6bfae38c4378baea", func := "retarget/retargetlaw11.AmbiguousSelf", spec := "ambiguousSelf", unfollowed := true, recurses := true, named := ["retarget/term.shapes"], loops := true, apart := false, laid := [("retarget/term.shapes", laid_retarget_term_shapes)] }
def AmbiguousSelfSaid : Prop := ambiguousSelfRow.holds Tryz.pinned (OpenSpec.ofChange ambiguousSelfSpec)

/-- ITS FALSE NEIGHBOUR: 'it returns false'. Refute it at one input. -/
def ambiguousSelfWrong : ChangeSpec := { name := "ambiguousSelf", fn := fun _ => fun
  | [d1, d2, d3] => { results := [.lit (.bool false)], args := [d1, d2, d3] }
  | _ => none }
def AmbiguousSelfWrongFalsely : Prop := ambiguousSelfRow.holds Tryz.pinned (OpenSpec.ofChange ambiguousSelfWrong)

/-- 'retargetlaw11.AmbiguousSpans': WHATEVER THE INPUT: true; the input reads as it did. -/
def ambiguousSpansSpec : ChangeSpec := { name := "ambiguousSpans", fn := fun _ => fun
  | [d1, d2, d3, d4] => { results := [.lit (.bool true)], args := [d1, d2, d3, d4] }
  | _ => none }
def ambiguousSpansRow : OpenClaim := { program := "ytnjlgllpfbkdoaagreatdoor", sum := "ef833b52853032c37ffb1c638b16d996286efbe11b8fd42e6bfae38c4378baea", func := "retarget/retargetlaw11.AmbiguousSpans", spec := "ambiguousSpans", unfollowed := true, recurses := true, named := ["retarget/term.shapes"], loops := true, apart := false, laid := [("retarget/term.shapes", laid_retarget_term_shapes)] }
def AmbiguousSpansSaid : Prop := ambiguousSpansRow.holds Tryz.pinned (OpenSpec.ofChange ambiguousSpansSpec)

/-- ITS FALSE NEIGHBOUR: 'it returns false'. Refute it at one input. -/
def ambiguousSpansWrong : ChangeSpec := { name := "ambiguousSpans", fn := fun _ => fun
  | [d1, d2, d3, d4] => { results := [.lit (.bool false)], args := [d1, d2, d3, d4] }
  | _ => none }
def AmbiguousSpansWrongFalsely : Prop := ambiguousSpansRow.holds Tryz.pinned (OpenSpec.ofChange ambiguousSpansWrong)

/- THE SECOND FORM. 'bulk': how many values and letters a reading holds, each counted each time it is reached (what is shared counts as often as it is met; a slice's spare places count too). A statement '..UptoSaid' is the law's where the arguments, and the package variables that the reading takes, are together of bulk at most 1048576: NARROWER than '..Said'. Prove '..Said' where nothing that the law and all that it calls make is longer than what came in: it says more and counts as full. Else prove '..UptoSaid'. A law counts once. -/
mutual
def uptoBulk {H : Type} : DataW H → Nat
  | .lit (.string bytes) => bytes.length + 1
  | .lit _ => 1
  | .nil => 1
  | .ptr d => uptoBulk d + 1
  | .slice elems spare => uptoBulkAll elems + uptoBulkAll spare + 1
  | .agg parts => uptoBulkAll parts + 1
  | .iface _ d => uptoBulk d + 1
  | .map entries => uptoBulkEntries entries + 1
  | .held _ => 1
def uptoBulkAll {H : Type} : List (DataW H) → Nat
  | [] => 0
  | d :: r => uptoBulk d + uptoBulkAll r
def uptoBulkEntries {H : Type} : List (Lit × DataW H) → Nat
  | [] => 0
  | x :: r => uptoBulkEntry x + uptoBulkEntries r
def uptoBulkEntry {H : Type} : Lit × DataW H → Nat
  | (.string bytes, d) => bytes.length + uptoBulk d + 1
  | (_, d) => uptoBulk d + 1
 end
def uptoSmall : (H : Type) → List (DataW H) → Bool := fun _ ds => decide (uptoBulkAll ds ≤ 1048576)
def OpenSpec.upto (s : _root_.Go.ChangeSpec) : _root_.Go.OpenSpec := { _root_.Go.OpenSpec.ofChange s with cond := some uptoSmall }

/-- 'retargetlaw11.AmbiguousTells', WHERE WHAT IT READS IS OF BULK AT MOST 1048576: true; the input reads as it did. -/
def ambiguousTellsUptoRow : OpenClaim := { program := "ytnjlgllpfbkdoaagreatdoor", sum := "ef833b52853032c37ffb1c638b16d996286efbe11b8fd42e6bfae38c4378baea", func := "retarget/retargetlaw11.AmbiguousTells", spec := "ambiguousTells", unfollowed := true, recurses := true, named := ["retarget/term.shapes"], loops := true, apart := false, laid := [("retarget/term.shapes", laid_retarget_term_shapes)], narrowed := true }
def AmbiguousTellsUptoSaid : Prop := ambiguousTellsUptoRow.holds Tryz.pinned (OpenSpec.upto ambiguousTellsSpec)

/-- 'retargetlaw11.AmbiguousPairs', WHERE WHAT IT READS IS OF BULK AT MOST 1048576: true; the input reads as it did. -/
def ambiguousPairsUptoRow : OpenClaim := { program := "ytnjlgllpfbkdoaagreatdoor", sum := "ef833b52853032c37ffb1c638b16d996286efbe11b8fd42e6bfae38c4378baea", func := "retarget/retargetlaw11.AmbiguousPairs", spec := "ambiguousPairs", unfollowed := true, recurses := true, named := ["retarget/term.shapes"], loops := true, apart := false, laid := [("retarget/term.shapes", laid_retarget_term_shapes)], narrowed := true }
def AmbiguousPairsUptoSaid : Prop := ambiguousPairsUptoRow.holds Tryz.pinned (OpenSpec.upto ambiguousPairsSpec)

/-- 'retargetlaw11.AmbiguousHoles', WHERE WHAT IT READS IS OF BULK AT MOST 1048576: true; the input reads as it did. -/
def ambiguousHolesUptoRow : OpenClaim := { program := "ytnjlgllpfbkdoaagreatdoor", sum := "ef833b52853032c37ffb1c638b16d996286efbe11b8fd42e6bfae38c4378baea", func := "retarget/retargetlaw11.AmbiguousHoles", spec := "ambiguousHoles", unfollowed := true, recurses := true, named := ["retarget/term.shapes"], loops := true, apart := false, laid := [("retarget/term.shapes", laid_retarget_term_shapes)], narrowed := true }
def AmbiguousHolesUptoSaid : Prop := ambiguousHolesUptoRow.holds Tryz.pinned (OpenSpec.upto ambiguousHolesSpec)

/-- 'retargetlaw11.AmbiguousOwners', WHERE WHAT IT READS IS OF BULK AT MOST 1048576: true; the input reads as it did. -/
def ambiguousOwnersUptoRow : OpenClaim := { program := "ytnjlgllpfbkdoaagreatdoor", sum := "ef833b52853032c37ffb1c638b16d996286efbe11b8fd42e6bfae38c4378baea", func := "retarget/retargetlaw11.AmbiguousOwners", spec := "ambiguousOwners", unfollowed := true, recurses := true, named := ["retarget/term.shapes"], loops := true, apart := false, laid := [("retarget/term.shapes", laid_retarget_term_shapes)], narrowed := true }
def AmbiguousOwnersUptoSaid : Prop := ambiguousOwnersUptoRow.holds Tryz.pinned (OpenSpec.upto ambiguousOwnersSpec)

/-- 'retargetlaw11.AmbiguousAll', WHERE WHAT IT READS IS OF BULK AT MOST 1048576: true; the input reads as it did. -/
def ambiguousAllUptoRow : OpenClaim := { program := "ytnjlgllpfbkdoaagreatdoor", sum := "ef833b52853032c37ffb1c638b16d996286efbe11b8fd42e6bfae38c4378baea", func := "retarget/retargetlaw11.AmbiguousAll", spec := "ambiguousAll", unfollowed := true, recurses := true, named := ["retarget/term.shapes"], loops := true, apart := false, laid := [("retarget/term.shapes", laid_retarget_term_shapes)], narrowed := true }
def AmbiguousAllUptoSaid : Prop := ambiguousAllUptoRow.holds Tryz.pinned (OpenSpec.upto ambiguousAllSpec)

/-- 'retargetlaw11.AmbiguousSelf', WHERE WHAT IT READS IS OF BULK AT MOST 1048576: true; the input reads as it did. -/
def ambiguousSelfUptoRow : OpenClaim := { program := "ytnjlgllpfbkdoaagreatdoor", sum := "ef833b52853032c37ffb1c638b16d996286efbe11b8fd42e6bfae38c4378baea", func := "retarget/retargetlaw11.AmbiguousSelf", spec := "ambiguousSelf", unfollowed := true, recurses := true, named := ["retarget/term.shapes"], loops := true, apart := false, laid := [("retarget/term.shapes", laid_retarget_term_shapes)], narrowed := true }
def AmbiguousSelfUptoSaid : Prop := ambiguousSelfUptoRow.holds Tryz.pinned (OpenSpec.upto ambiguousSelfSpec)

/-- 'retargetlaw11.AmbiguousSpans', WHERE WHAT IT READS IS OF BULK AT MOST 1048576: true; the input reads as it did. -/
def ambiguousSpansUptoRow : OpenClaim := { program := "ytnjlgllpfbkdoaagreatdoor", sum := "ef833b52853032c37ffb1c638b16d996286efbe11b8fd42e6bfae38c4378baea", func := "retarget/retargetlaw11.AmbiguousSpans", spec := "ambiguousSpans", unfollowed := true, recurses := true, named := ["retarget/term.shapes"], loops := true, apart := false, laid := [("retarget/term.shapes", laid_retarget_term_shapes)], narrowed := true }
def AmbiguousSpansUptoSaid : Prop := ambiguousSpansUptoRow.holds Tryz.pinned (OpenSpec.upto ambiguousSpansSpec)

end Rows
end Go.Proofs.YtnjlgllpfbkdoaaGreatDoor
