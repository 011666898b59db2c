/-
  DERIVED. GIVEN WITH THE SEED: THE CARDS: each row of YtofhpahihneipaaGreatDoorRows.lean that lists a variable, with what it lists TIED to the program's text (the seventh form; the later family's looks); each row that meets fmt, with fmt's text TOLD by the authors' own Lean function (tested against real Go, not proved from fmt's source: count such statements apart). THE CARD IS WHAT COUNTS. Prove the row's statement (the work); the ties are given (YtofhpahihneipaaGreatDoorTie.lean); close each card by the builder's one call (the guide's Derived/Test/ToyasCard.lean, 'card_holds'). Laid BY PROGRAM, IN A SANDBOX (cutbox-door.mjs). By AI agents, Wed Nov 11 2026. No macro, syntax, notation, axiom, sorry.
-/
import Derived.Test.YtofhpahihneipaaGreatDoorRows
import GoSem.ClaimSeven
namespace Go.Proofs.YtofhpahihneipaaGreatDoor
namespace Rows

/-- THE TIED CARD OF 'retargetlaw12.EncodeBack'. -/
def encodeBackCard : Claim7 := { stood := { row := encodeBackRow, standIns := [], harness := (true, "c84241ac63b1cde4cf504d7d5044f47bbf6dc7bff011555759377a2c6e506fba"), looks := false }, kinds := [], alts := [], laidByText := true, laidKinds := [.data], laidTests := true, laidLooks := .later }
def EncodeBackCardSaid : Prop := Claim7.holds Tryz.pinned (.plain (OpenSpec.ofChange encodeBackSpec)) encodeBackCard

/-- THE TIED CARD OF 'retargetlaw12.EncodeDiffers'. -/
def encodeDiffersCard : Claim7 := { stood := { row := encodeDiffersRow, standIns := [], harness := (true, "c84241ac63b1cde4cf504d7d5044f47bbf6dc7bff011555759377a2c6e506fba"), looks := false }, kinds := [], alts := [], laidByText := true, laidKinds := [.data], laidTests := true, laidLooks := .later }
def EncodeDiffersCardSaid : Prop := Claim7.holds Tryz.pinned (.plain (OpenSpec.ofChange encodeDiffersSpec)) encodeDiffersCard

/-- THE TIED CARD OF 'retargetlaw12.EncodeRefuses'. -/
def encodeRefusesCard : Claim7 := { stood := { row := encodeRefusesRow, standIns := [], harness := (true, "c84241ac63b1cde4cf504d7d5044f47bbf6dc7bff011555759377a2c6e506fba"), looks := false }, kinds := [], alts := [], laidByText := true, laidKinds := [.data], laidTests := true, laidLooks := .later }
def EncodeRefusesCardSaid : Prop := Claim7.holds Tryz.pinned (.plain (OpenSpec.ofChange encodeRefusesSpec)) encodeRefusesCard

/-- THE SECOND FORM's CARD OF 'retargetlaw12.EncodeBack'. -/
def encodeBackUptoCard : Claim7 := { stood := { row := encodeBackUptoRow, standIns := [], harness := (true, "c84241ac63b1cde4cf504d7d5044f47bbf6dc7bff011555759377a2c6e506fba"), looks := false }, kinds := [], alts := [], laidByText := true, laidKinds := [.data], laidTests := true, laidLooks := .later }
def EncodeBackUptoCardSaid : Prop := Claim7.holds Tryz.pinned (.plain (OpenSpec.upto encodeBackSpec)) encodeBackUptoCard

/-- THE SECOND FORM's CARD OF 'retargetlaw12.EncodeDiffers'. -/
def encodeDiffersUptoCard : Claim7 := { stood := { row := encodeDiffersUptoRow, standIns := [], harness := (true, "c84241ac63b1cde4cf504d7d5044f47bbf6dc7bff011555759377a2c6e506fba"), looks := false }, kinds := [], alts := [], laidByText := true, laidKinds := [.data], laidTests := true, laidLooks := .later }
def EncodeDiffersUptoCardSaid : Prop := Claim7.holds Tryz.pinned (.plain (OpenSpec.upto encodeDiffersSpec)) encodeDiffersUptoCard

/-- THE SECOND FORM's CARD OF 'retargetlaw12.EncodeRefuses'. -/
def encodeRefusesUptoCard : Claim7 := { stood := { row := encodeRefusesUptoRow, standIns := [], harness := (true, "c84241ac63b1cde4cf504d7d5044f47bbf6dc7bff011555759377a2c6e506fba"), looks := false }, kinds := [], alts := [], laidByText := true, laidKinds := [.data], laidTests := true, laidLooks := .later }
def EncodeRefusesUptoCardSaid : Prop := Claim7.holds Tryz.pinned (.plain (OpenSpec.upto encodeRefusesSpec)) encodeRefusesUptoCard
end Rows
end Go.Proofs.YtofhpahihneipaaGreatDoor
