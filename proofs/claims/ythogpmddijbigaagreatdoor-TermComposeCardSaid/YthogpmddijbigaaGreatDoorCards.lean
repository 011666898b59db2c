/-
  DERIVED. GIVEN WITH THE SEED: THE CARDS: each row of YthogpmddijbigaaGreatDoorRows.lean that lists a variable, with what it lists TIED to the program's text (the seventh form; the later family's looks); each row that meets fmt, with fmt's text TOLD by the authors' own Lean function (tested against real Go, not proved from fmt's source: count such statements apart). THE CARD IS WHAT COUNTS. Prove the row's statement (the work); the ties are given (YthogpmddijbigaaGreatDoorTie.lean); close each card by the builder's one call (the guide's Derived/Test/ToyasCard.lean, 'card_holds'). Laid BY PROGRAM, IN A SANDBOX (cutbox-door.mjs). By AI agents, Wed Nov 11 2026. No macro, syntax, notation, axiom, sorry.
-/
import Derived.Test.YthogpmddijbigaaGreatDoorRows
import GoSem.ClaimSeven
namespace Go.Proofs.YthogpmddijbigaaGreatDoor
namespace Rows

/-- THE TIED CARD OF 'retargetlaw02.TermCompose'. -/
def termComposeCard : Claim7 := { stood := { row := termComposeRow, standIns := [], harness := (true, "8f42dc3760e1f7eb306940756eed602c92d0f41bad1aa72c3cb1c212b40c7321"), looks := true }, kinds := [], alts := [], laidByText := true, laidKinds := [.data, .data, .data, .sentinel, .sentinel, .data], laidTests := true, laidLooks := .later }
def TermComposeCardSaid : Prop := Claim7.holds Tryz.pinned (.plain (OpenSpec.ofChange termComposeSpec)) termComposeCard

/-- THE TIED CARD OF 'retargetlaw02.TermValues'. -/
def termValuesCard : Claim7 := { stood := { row := termValuesRow, standIns := [], harness := (true, "8f42dc3760e1f7eb306940756eed602c92d0f41bad1aa72c3cb1c212b40c7321"), looks := true }, kinds := [], alts := [], laidByText := true, laidKinds := [.data], laidTests := true, laidLooks := .later }
def TermValuesCardSaid : Prop := Claim7.holds Tryz.pinned (.plain (OpenSpec.ofChange termValuesSpec)) termValuesCard

/-- THE TIED CARD OF 'retargetlaw02.TermReplace'. -/
def termReplaceCard : Claim7 := { stood := { row := termReplaceRow, standIns := [], harness := (true, "8f42dc3760e1f7eb306940756eed602c92d0f41bad1aa72c3cb1c212b40c7321"), looks := true }, kinds := [], alts := [], laidByText := true, laidKinds := [.data, .data, .data, .sentinel, .sentinel, .data], laidTests := true, laidLooks := .later }
def TermReplaceCardSaid : Prop := Claim7.holds Tryz.pinned (.plain (OpenSpec.ofChange termReplaceSpec)) termReplaceCard

/-- THE SECOND FORM's CARD OF 'retargetlaw02.TermCompose'. -/
def termComposeUptoCard : Claim7 := { stood := { row := termComposeUptoRow, standIns := [], harness := (true, "8f42dc3760e1f7eb306940756eed602c92d0f41bad1aa72c3cb1c212b40c7321"), looks := true }, kinds := [], alts := [], laidByText := true, laidKinds := [.data, .data, .data, .sentinel, .sentinel, .data], laidTests := true, laidLooks := .later }
def TermComposeUptoCardSaid : Prop := Claim7.holds Tryz.pinned (.plain (OpenSpec.upto termComposeSpec)) termComposeUptoCard

/-- THE SECOND FORM's CARD OF 'retargetlaw02.TermValues'. -/
def termValuesUptoCard : Claim7 := { stood := { row := termValuesUptoRow, standIns := [], harness := (true, "8f42dc3760e1f7eb306940756eed602c92d0f41bad1aa72c3cb1c212b40c7321"), looks := true }, kinds := [], alts := [], laidByText := true, laidKinds := [.data], laidTests := true, laidLooks := .later }
def TermValuesUptoCardSaid : Prop := Claim7.holds Tryz.pinned (.plain (OpenSpec.upto termValuesSpec)) termValuesUptoCard

/-- THE SECOND FORM's CARD OF 'retargetlaw02.TermReplace'. -/
def termReplaceUptoCard : Claim7 := { stood := { row := termReplaceUptoRow, standIns := [], harness := (true, "8f42dc3760e1f7eb306940756eed602c92d0f41bad1aa72c3cb1c212b40c7321"), looks := true }, kinds := [], alts := [], laidByText := true, laidKinds := [.data, .data, .data, .sentinel, .sentinel, .data], laidTests := true, laidLooks := .later }
def TermReplaceUptoCardSaid : Prop := Claim7.holds Tryz.pinned (.plain (OpenSpec.upto termReplaceSpec)) termReplaceUptoCard
end Rows
end Go.Proofs.YthogpmddijbigaaGreatDoor
