/-
  NARROWER THAN 'FOR EVERY INPUT', by the rows' own cells (each row's printed sentence says how): MachineParts: loops, laid · MachineValues: loops, laid · MachineOps: loops, laid · AmbiguousTells: loops, laid.
  DERIVED. THE GIVEN ROWS OF THIS SEAT. 4 by the template 'for every input the law returns true; each argument reads behind the call as it read before'; 0 by the template 'total and deterministic' (their statements: YtdmadnfadgggcaaGreatDoorTotals.lean).
  GIVEN WITH THE SEED: the statements are not yours to turn. If you find one false, say at which input.
  Laid BY PROGRAM, IN A SANDBOX (cutbox-rows.mjs): the forced cells as the released guide's own fill.sh prints them over the translation 9f5dc4f84a23c3d8… (all of the seat's roots in one cut). By AI agents, Wed Nov 11 2026. No macro, syntax, notation, axiom, sorry.
-/
import Derived.Test.YtdmadnfadgggcaaGreatDoorChecked
import GoSem.Claim
import GoSem.ClaimJoined
import GoSem.ClaimMapViews
import Derived.JoinedTies
import Derived.KernelRfl
namespace Go.Proofs.YtdmadnfadgggcaaGreatDoor
/- THE CELL 'sum', in the pinned program and in every row, IS THE sha256 OF THE DUMP (.gsa) THAT YtdmadnfadgggcaaGreatDoorProg.lean LOADS. Nothing in Lean hashes anything: it is a label: what it is worth is what the hold of that sum in a sandbox is worth. -/
noncomputable def Tryz.pinned : Pinned := { name := "ytdmadnfadgggcaagreatdoor", sum := "9f5dc4f84a23c3d8dc20149654e0b8273302efa571926aafd7d2473d9a3a21dc", checked := Tryz.checked }
namespace Rows
def none {H : Type} : Left H := { results := [], args := [] }

/- WHAT THE LISTED PACKAGE-LEVEL VARIABLES READ AS WHEN THE CALL BEGINS. Each datum BY PROGRAM (the guide's laid-datum.mjs) off the statement by which the dump's own 'gosem.cut.vars' lays the variable. In a bare row this is a premise. The card (YtdmadnfadgggcaaGreatDoorCards.lean) ties it to the program's text. -/
def laid_retarget_term_shapes {H : Type} : DataW H := .agg [.agg [.lit (.string []), .lit (.int .i64 0)], .agg [.lit (.string []), .lit (.int .i64 0)], .agg [.lit (.string []), .lit (.int .i64 0)], .agg [.lit (.string [110, 111, 116]), .lit (.int .i64 1)], .agg [.lit (.string [110, 101, 103]), .lit (.int .i64 1)], .agg [.lit (.string [97, 100, 100]), .lit (.int .i64 2)], .agg [.lit (.string [115, 117, 98]), .lit (.int .i64 2)], .agg [.lit (.string [109, 117, 108]), .lit (.int .i64 2)], .agg [.lit (.string [97, 110, 100]), .lit (.int .i64 2)], .agg [.lit (.string [111, 114]), .lit (.int .i64 2)], .agg [.lit (.string [120, 111, 114]), .lit (.int .i64 2)], .agg [.lit (.string [115, 104, 108]), .lit (.int .i64 2)], .agg [.lit (.string [115, 104, 114]), .lit (.int .i64 2)], .agg [.lit (.string [115, 97, 114]), .lit (.int .i64 2)], .agg [.lit (.string [117, 100, 105, 118]), .lit (.int .i64 2)], .agg [.lit (.string [117, 114, 101, 109]), .lit (.int .i64 2)], .agg [.lit (.string [101, 113]), .lit (.int .i64 2)], .agg [.lit (.string [117, 108, 116]), .lit (.int .i64 2)], .agg [.lit (.string [115, 108, 116]), .lit (.int .i64 2)], .agg [.lit (.string [105, 116, 101]), .lit (.int .i64 3)], .agg [.lit (.string [99, 111, 110, 99, 97, 116]), .lit (.int .i64 2)], .agg [.lit (.string [101, 120, 116, 114, 97, 99, 116]), .lit (.int .i64 1)], .agg [.lit (.string [122, 101, 120, 116]), .lit (.int .i64 1)], .agg [.lit (.string [115, 101, 120, 116]), .lit (.int .i64 1)], .agg [.lit (.string [108, 111, 97, 100]), .lit (.int .i64 1)]]

/-- 'retargetlaw08.MachineParts': WHATEVER THE INPUT: true; the input reads as it did. -/
def machinePartsSpec : ChangeSpec := { name := "machineParts", fn := fun _ => fun
  | [d1, d2, d3, d4] => { results := [.lit (.bool true)], args := [d1, d2, d3, d4] }
  | _ => none }
def machinePartsRow : OpenClaim := { program := "ytdmadnfadgggcaagreatdoor", sum := "9f5dc4f84a23c3d8dc20149654e0b8273302efa571926aafd7d2473d9a3a21dc", func := "retarget/retargetlaw08.MachineParts", spec := "machineParts", unfollowed := true, recurses := true, named := ["retarget/term.shapes"], loops := true, apart := false, laid := [("retarget/term.shapes", laid_retarget_term_shapes)] }
def MachinePartsSaid : Prop := machinePartsRow.holds Tryz.pinned (OpenSpec.ofChange machinePartsSpec)

/-- ITS FALSE NEIGHBOUR: 'it returns false'. Refute it at one input. -/
def machinePartsWrong : ChangeSpec := { name := "machineParts", fn := fun _ => fun
  | [d1, d2, d3, d4] => { results := [.lit (.bool false)], args := [d1, d2, d3, d4] }
  | _ => none }
def MachinePartsWrongFalsely : Prop := machinePartsRow.holds Tryz.pinned (OpenSpec.ofChange machinePartsWrong)

/-- 'retargetlaw08.MachineValues': WHATEVER THE INPUT: true; the input reads as it did. -/
def machineValuesSpec : ChangeSpec := { name := "machineValues", fn := fun _ => fun
  | [d1, d2, d3, d4] => { results := [.lit (.bool true)], args := [d1, d2, d3, d4] }
  | _ => none }
def machineValuesRow : OpenClaim := { program := "ytdmadnfadgggcaagreatdoor", sum := "9f5dc4f84a23c3d8dc20149654e0b8273302efa571926aafd7d2473d9a3a21dc", func := "retarget/retargetlaw08.MachineValues", spec := "machineValues", unfollowed := true, recurses := true, named := ["retarget/term.shapes"], loops := true, apart := false, laid := [("retarget/term.shapes", laid_retarget_term_shapes)] }
def MachineValuesSaid : Prop := machineValuesRow.holds Tryz.pinned (OpenSpec.ofChange machineValuesSpec)

/-- ITS FALSE NEIGHBOUR: 'it returns false'. Refute it at one input. -/
def machineValuesWrong : ChangeSpec := { name := "machineValues", fn := fun _ => fun
  | [d1, d2, d3, d4] => { results := [.lit (.bool false)], args := [d1, d2, d3, d4] }
  | _ => none }
def MachineValuesWrongFalsely : Prop := machineValuesRow.holds Tryz.pinned (OpenSpec.ofChange machineValuesWrong)

/-- 'retargetlaw08.MachineOps': WHATEVER THE INPUT: true; the input reads as it did. -/
def machineOpsSpec : ChangeSpec := { name := "machineOps", fn := fun _ => fun
  | [d1, d2, d3] => { results := [.lit (.bool true)], args := [d1, d2, d3] }
  | _ => none }
def machineOpsRow : OpenClaim := { program := "ytdmadnfadgggcaagreatdoor", sum := "9f5dc4f84a23c3d8dc20149654e0b8273302efa571926aafd7d2473d9a3a21dc", func := "retarget/retargetlaw08.MachineOps", spec := "machineOps", unfollowed := true, recurses := true, named := ["retarget/term.shapes"], loops := true, apart := false, laid := [("retarget/term.shapes", laid_retarget_term_shapes)] }
def MachineOpsSaid : Prop := machineOpsRow.holds Tryz.pinned (OpenSpec.ofChange machineOpsSpec)

/-- ITS FALSE NEIGHBOUR: 'it returns false'. Refute it at one input. -/
def machineOpsWrong : ChangeSpec := { name := "machineOps", fn := fun _ => fun
  | [d1, d2, d3] => { results := [.lit (.bool false)], args := [d1, d2, d3] }
  | _ => none }
def MachineOpsWrongFalsely : Prop := machineOpsRow.holds Tryz.pinned (OpenSpec.ofChange machineOpsWrong)

/-- 'retargetlaw11.AmbiguousTells': WHATEVER THE INPUT: true; the input reads as it did. -/
def ambiguousTellsSpec : ChangeSpec := { name := "ambiguousTells", fn := fun _ => fun
  | [d1, d2, d3] => { results := [.lit (.bool true)], args := [d1, d2, d3] }
  | _ => none }
def ambiguousTellsRow : OpenClaim := { program := "ytdmadnfadgggcaagreatdoor", sum := "9f5dc4f84a23c3d8dc20149654e0b8273302efa571926aafd7d2473d9a3a21dc", func := "retarget/retargetlaw11.AmbiguousTells", spec := "ambiguousTells", unfollowed := true, recurses := true, named := ["retarget/term.shapes"], loops := true, apart := false, laid := [("retarget/term.shapes", laid_retarget_term_shapes)] }
def AmbiguousTellsSaid : Prop := ambiguousTellsRow.holds Tryz.pinned (OpenSpec.ofChange ambiguousTellsSpec)

/-- ITS FALSE NEIGHBOUR: 'it returns false'. Refute it at one input. -/
def ambiguousTellsWrong : ChangeSpec := { name := "ambiguousTells", fn := fun _ => fun
  | [d1, d2, d3] => { results := [.lit (.bool false)], args := [d1, d2, d3] }
  | _ => none }
def AmbiguousTellsWrongFalsely : Prop := ambiguousTellsRow.holds Tryz.pinned (OpenSpec.ofChange ambiguousTellsWrong)

/- THE SECOND FORM. 'bulk': how many values and letters a reading holds, each counted each time it is reached (what is shared counts as often as it is met; a slice's spare places count too). A statement '..UptoSaid' is the law's where the arguments, and the package variables that the reading takes, are together of bulk at most 1048576: NARROWER than '..Said'. Prove '..Said' where nothing that the law and all that it calls make is longer than what came in: it says more and counts as full. Else prove '..UptoSaid'. A law counts once. -/
mutual
def uptoBulk {H : Type} : DataW H → Nat
  | .lit (.string bytes) => bytes.length + 1
  | .lit _ => 1
  | .nil => 1
  | .ptr d => uptoBulk d + 1
  | .slice elems spare => uptoBulkAll elems + uptoBulkAll spare + 1
  | .agg parts => uptoBulkAll parts + 1
  | .iface _ d => uptoBulk d + 1
  | .map entries => uptoBulkEntries entries + 1
  | .held _ => 1
def uptoBulkAll {H : Type} : List (DataW H) → Nat
  | [] => 0
  | d :: r => uptoBulk d + uptoBulkAll r
def uptoBulkEntries {H : Type} : List (Lit × DataW H) → Nat
  | [] => 0
  | x :: r => uptoBulkEntry x + uptoBulkEntries r
def uptoBulkEntry {H : Type} : Lit × DataW H → Nat
  | (.string bytes, d) => bytes.length + uptoBulk d + 1
  | (_, d) => uptoBulk d + 1
 end
def uptoSmall : (H : Type) → List (DataW H) → Bool := fun _ ds => decide (uptoBulkAll ds ≤ 1048576)
def OpenSpec.upto (s : _root_.Go.ChangeSpec) : _root_.Go.OpenSpec := { _root_.Go.OpenSpec.ofChange s with cond := some uptoSmall }

/-- 'retargetlaw08.MachineParts', WHERE WHAT IT READS IS OF BULK AT MOST 1048576: true; the input reads as it did. -/
def machinePartsUptoRow : OpenClaim := { program := "ytdmadnfadgggcaagreatdoor", sum := "9f5dc4f84a23c3d8dc20149654e0b8273302efa571926aafd7d2473d9a3a21dc", func := "retarget/retargetlaw08.MachineParts", spec := "machineParts", unfollowed := true, recurses := true, named := ["retarget/term.shapes"], loops := true, apart := false, laid := [("retarget/term.shapes", laid_retarget_term_shapes)], narrowed := true }
def MachinePartsUptoSaid : Prop := machinePartsUptoRow.holds Tryz.pinned (OpenSpec.upto machinePartsSpec)

/-- 'retargetlaw08.MachineValues', WHERE WHAT IT READS IS OF BULK AT MOST 1048576: true; the input reads as it did. -/
def machineValuesUptoRow : OpenClaim := { program := "ytdmadnfadgggcaagreatdoor", sum := "9f5dc4f84a23c3d8dc20149654e0b8273302efa571926aafd7d2473d9a3a21dc", func := "retarget/retargetlaw08.MachineValues", spec := "machineValues", unfollowed := true, recurses := true, named := ["retarget/term.shapes"], loops := true, apart := false, laid := [("retarget/term.shapes", laid_retarget_term_shapes)], narrowed := true }
def MachineValuesUptoSaid : Prop := machineValuesUptoRow.holds Tryz.pinned (OpenSpec.upto machineValuesSpec)

/-- 'retargetlaw08.MachineOps', WHERE WHAT IT READS IS OF BULK AT MOST 1048576: true; the input reads as it did. -/
def machineOpsUptoRow : OpenClaim := { program := "ytdmadnfadgggcaagreatdoor", sum := "9f5dc4f84a23c3d8dc20149654e0b8273302efa571926aafd7d2473d9a3a21dc", func := "retarget/retargetlaw08.MachineOps", spec := "machineOps", unfollowed := true, recurses := true, named := ["retarget/term.shapes"], loops := true, apart := false, laid := [("retarget/term.shapes", laid_retarget_term_shapes)], narrowed := true }
def MachineOpsUptoSaid : Prop := machineOpsUptoRow.holds Tryz.pinned (OpenSpec.upto machineOpsSpec)

/-- 'retargetlaw11.AmbiguousTells', WHERE WHAT IT READS IS OF BULK AT MOST 1048576: true; the input reads as it did. -/
def ambiguousTellsUptoRow : OpenClaim := { program := "ytdmadnfadgggcaagreatdoor", sum := "9f5dc4f84a23c3d8dc20149654e0b8273302efa571926aafd7d2473d9a3a21dc", func := "retarget/retargetlaw11.AmbiguousTells", spec := "ambiguousTells", unfollowed := true, recurses := true, named := ["retarget/term.shapes"], loops := true, apart := false, laid := [("retarget/term.shapes", laid_retarget_term_shapes)], narrowed := true }
def AmbiguousTellsUptoSaid : Prop := ambiguousTellsUptoRow.holds Tryz.pinned (OpenSpec.upto ambiguousTellsSpec)

end Rows
end Go.Proofs.YtdmadnfadgggcaaGreatDoor
