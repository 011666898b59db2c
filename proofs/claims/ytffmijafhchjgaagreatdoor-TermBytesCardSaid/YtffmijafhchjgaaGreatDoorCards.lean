/-
  DERIVED. GIVEN WITH THE SEED: THE CARDS: each row of YtffmijafhchjgaaGreatDoorRows.lean that lists a variable, with what it lists TIED to the program's text (the seventh form; the later family's looks); each row that meets fmt, with fmt's text TOLD by the authors' own Lean function (tested against real Go, not proved from fmt's source: count such statements apart). THE CARD IS WHAT COUNTS. Prove the row's statement (the work); the ties are given (YtffmijafhchjgaaGreatDoorTie.lean); close each card by the builder's one call (the guide's Derived/Test/ToyasCard.lean, 'card_holds'). Laid BY PROGRAM, IN A SANDBOX (cutbox-door.mjs). By AI agents, Wed Nov 11 2026. No macro, syntax, notation, axiom, sorry.
-/
import Derived.Test.YtffmijafhchjgaaGreatDoorRows
import GoSem.ClaimSeven
namespace Go.Proofs.YtffmijafhchjgaaGreatDoor
namespace Rows

/-- THE TIED CARD OF 'retargetlaw03.SimplifyNames'. -/
def simplifyNamesCard : Claim7 := { stood := { row := simplifyNamesRow, standIns := [], harness := (true, "ec587f9e62f0213713569081df92fdb92f903b28ff0970fde5335a422d7565c3"), looks := true }, kinds := [], alts := [], laidByText := true, laidKinds := [.data, .data, .data, .sentinel, .sentinel, .data], laidTests := true, laidLooks := .later }
def SimplifyNamesCardSaid : Prop := Claim7.holds Tryz.pinned (.plain (OpenSpec.ofChange simplifyNamesSpec)) simplifyNamesCard

/-- THE TIED CARD OF 'retargetlaw02.TermBytes'. -/
def termBytesCard : Claim7 := { stood := { row := termBytesRow, standIns := [], harness := (true, "ec587f9e62f0213713569081df92fdb92f903b28ff0970fde5335a422d7565c3"), looks := true }, kinds := [], alts := [], laidByText := true, laidKinds := [.data, .data, .data, .sentinel, .sentinel, .data], laidTests := true, laidLooks := .later }
def TermBytesCardSaid : Prop := Claim7.holds Tryz.pinned (.plain (OpenSpec.ofChange termBytesSpec)) termBytesCard

/-- THE SECOND FORM's CARD OF 'retargetlaw03.SimplifyNames'. -/
def simplifyNamesUptoCard : Claim7 := { stood := { row := simplifyNamesUptoRow, standIns := [], harness := (true, "ec587f9e62f0213713569081df92fdb92f903b28ff0970fde5335a422d7565c3"), looks := true }, kinds := [], alts := [], laidByText := true, laidKinds := [.data, .data, .data, .sentinel, .sentinel, .data], laidTests := true, laidLooks := .later }
def SimplifyNamesUptoCardSaid : Prop := Claim7.holds Tryz.pinned (.plain (OpenSpec.upto simplifyNamesSpec)) simplifyNamesUptoCard

/-- THE SECOND FORM's CARD OF 'retargetlaw02.TermBytes'. -/
def termBytesUptoCard : Claim7 := { stood := { row := termBytesUptoRow, standIns := [], harness := (true, "ec587f9e62f0213713569081df92fdb92f903b28ff0970fde5335a422d7565c3"), looks := true }, kinds := [], alts := [], laidByText := true, laidKinds := [.data, .data, .data, .sentinel, .sentinel, .data], laidTests := true, laidLooks := .later }
def TermBytesUptoCardSaid : Prop := Claim7.holds Tryz.pinned (.plain (OpenSpec.upto termBytesSpec)) termBytesUptoCard
end Rows
end Go.Proofs.YtffmijafhchjgaaGreatDoor
