/-
  DERIVED. GIVEN WITH THE SEED: THE CARDS: each row of YtnjlgllpfbkdoaaGreatDoorRows.lean that lists a variable, with what it lists TIED to the program's text (the seventh form; the later family's looks); each row that meets fmt, with fmt's text TOLD by the authors' own Lean function (tested against real Go, not proved from fmt's source: count such statements apart). THE CARD IS WHAT COUNTS. Prove the row's statement (the work); the ties are given (YtnjlgllpfbkdoaaGreatDoorTie.lean); close each card by the builder's one call (the guide's Derived/Test/ToyasCard.lean, 'card_holds'). Laid BY PROGRAM, IN A SANDBOX (cutbox-door.mjs). By AI agents, Wed Nov 11 2026. No macro, syntax, notation, axiom, sorry.
-/
import Derived.Test.YtnjlgllpfbkdoaaGreatDoorRows
import GoSem.ClaimSeven
namespace Go.Proofs.YtnjlgllpfbkdoaaGreatDoor
namespace Rows

/-- THE TIED CARD OF 'retargetlaw11.AmbiguousTells'. -/
def ambiguousTellsCard : Claim7 := { stood := { row := ambiguousTellsRow, standIns := [], harness := (true, "563d00feefe192be3df63b70f17928963a4e8f1aa2fbec62924f9a488ff076d7"), looks := false }, kinds := [], alts := [], laidByText := true, laidKinds := [.data], laidTests := true, laidLooks := .later }
def AmbiguousTellsCardSaid : Prop := Claim7.holds Tryz.pinned (.plain (OpenSpec.ofChange ambiguousTellsSpec)) ambiguousTellsCard

/-- THE TIED CARD OF 'retargetlaw11.AmbiguousPairs'. -/
def ambiguousPairsCard : Claim7 := { stood := { row := ambiguousPairsRow, standIns := [], harness := (true, "563d00feefe192be3df63b70f17928963a4e8f1aa2fbec62924f9a488ff076d7"), looks := false }, kinds := [], alts := [], laidByText := true, laidKinds := [.data], laidTests := true, laidLooks := .later }
def AmbiguousPairsCardSaid : Prop := Claim7.holds Tryz.pinned (.plain (OpenSpec.ofChange ambiguousPairsSpec)) ambiguousPairsCard

/-- THE TIED CARD OF 'retargetlaw11.AmbiguousHoles'. -/
def ambiguousHolesCard : Claim7 := { stood := { row := ambiguousHolesRow, standIns := [], harness := (true, "563d00feefe192be3df63b70f17928963a4e8f1aa2fbec62924f9a488ff076d7"), looks := false }, kinds := [], alts := [], laidByText := true, laidKinds := [.data], laidTests := true, laidLooks := .later }
def AmbiguousHolesCardSaid : Prop := Claim7.holds Tryz.pinned (.plain (OpenSpec.ofChange ambiguousHolesSpec)) ambiguousHolesCard

/-- THE TIED CARD OF 'retargetlaw11.AmbiguousOwners'. -/
def ambiguousOwnersCard : Claim7 := { stood := { row := ambiguousOwnersRow, standIns := [], harness := (true, "563d00feefe192be3df63b70f17928963a4e8f1aa2fbec62924f9a488ff076d7"), looks := false }, kinds := [], alts := [], laidByText := true, laidKinds := [.data], laidTests := true, laidLooks := .later }
def AmbiguousOwnersCardSaid : Prop := Claim7.holds Tryz.pinned (.plain (OpenSpec.ofChange ambiguousOwnersSpec)) ambiguousOwnersCard

/-- THE TIED CARD OF 'retargetlaw11.AmbiguousAll'. -/
def ambiguousAllCard : Claim7 := { stood := { row := ambiguousAllRow, standIns := [], harness := (true, "563d00feefe192be3df63b70f17928963a4e8f1aa2fbec62924f9a488ff076d7"), looks := false }, kinds := [], alts := [], laidByText := true, laidKinds := [.data], laidTests := true, laidLooks := .later }
def AmbiguousAllCardSaid : Prop := Claim7.holds Tryz.pinned (.plain (OpenSpec.ofChange ambiguousAllSpec)) ambiguousAllCard

/-- THE TIED CARD OF 'retargetlaw11.AmbiguousSelf'. -/
def ambiguousSelfCard : Claim7 := { stood := { row := ambiguousSelfRow, standIns := [], harness := (true, "563d00feefe192be3df63b70f17928963a4e8f1aa2fbec62924f9a488ff076d7"), looks := false }, kinds := [], alts := [], laidByText := true, laidKinds := [.data], laidTests := true, laidLooks := .later }
def AmbiguousSelfCardSaid : Prop := Claim7.holds Tryz.pinned (.plain (OpenSpec.ofChange ambiguousSelfSpec)) ambiguousSelfCard

/-- THE TIED CARD OF 'retargetlaw11.AmbiguousSpans'. -/
def ambiguousSpansCard : Claim7 := { stood := { row := ambiguousSpansRow, standIns := [], harness := (true, "563d00feefe192be3df63b70f17928963a4e8f1aa2fbec62924f9a488ff076d7"), looks := false }, kinds := [], alts := [], laidByText := true, laidKinds := [.data], laidTests := true, laidLooks := .later }
def AmbiguousSpansCardSaid : Prop := Claim7.holds Tryz.pinned (.plain (OpenSpec.ofChange ambiguousSpansSpec)) ambiguousSpansCard

/-- THE SECOND FORM's CARD OF 'retargetlaw11.AmbiguousTells'. -/
def ambiguousTellsUptoCard : Claim7 := { stood := { row := ambiguousTellsUptoRow, standIns := [], harness := (true, "563d00feefe192be3df63b70f17928963a4e8f1aa2fbec62924f9a488ff076d7"), looks := false }, kinds := [], alts := [], laidByText := true, laidKinds := [.data], laidTests := true, laidLooks := .later }
def AmbiguousTellsUptoCardSaid : Prop := Claim7.holds Tryz.pinned (.plain (OpenSpec.upto ambiguousTellsSpec)) ambiguousTellsUptoCard

/-- THE SECOND FORM's CARD OF 'retargetlaw11.AmbiguousPairs'. -/
def ambiguousPairsUptoCard : Claim7 := { stood := { row := ambiguousPairsUptoRow, standIns := [], harness := (true, "563d00feefe192be3df63b70f17928963a4e8f1aa2fbec62924f9a488ff076d7"), looks := false }, kinds := [], alts := [], laidByText := true, laidKinds := [.data], laidTests := true, laidLooks := .later }
def AmbiguousPairsUptoCardSaid : Prop := Claim7.holds Tryz.pinned (.plain (OpenSpec.upto ambiguousPairsSpec)) ambiguousPairsUptoCard

/-- THE SECOND FORM's CARD OF 'retargetlaw11.AmbiguousHoles'. -/
def ambiguousHolesUptoCard : Claim7 := { stood := { row := ambiguousHolesUptoRow, standIns := [], harness := (true, "563d00feefe192be3df63b70f17928963a4e8f1aa2fbec62924f9a488ff076d7"), looks := false }, kinds := [], alts := [], laidByText := true, laidKinds := [.data], laidTests := true, laidLooks := .later }
def AmbiguousHolesUptoCardSaid : Prop := Claim7.holds Tryz.pinned (.plain (OpenSpec.upto ambiguousHolesSpec)) ambiguousHolesUptoCard

/-- THE SECOND FORM's CARD OF 'retargetlaw11.AmbiguousOwners'. -/
def ambiguousOwnersUptoCard : Claim7 := { stood := { row := ambiguousOwnersUptoRow, standIns := [], harness := (true, "563d00feefe192be3df63b70f17928963a4e8f1aa2fbec62924f9a488ff076d7"), looks := false }, kinds := [], alts := [], laidByText := true, laidKinds := [.data], laidTests := true, laidLooks := .later }
def AmbiguousOwnersUptoCardSaid : Prop := Claim7.holds Tryz.pinned (.plain (OpenSpec.upto ambiguousOwnersSpec)) ambiguousOwnersUptoCard

/-- THE SECOND FORM's CARD OF 'retargetlaw11.AmbiguousAll'. -/
def ambiguousAllUptoCard : Claim7 := { stood := { row := ambiguousAllUptoRow, standIns := [], harness := (true, "563d00feefe192be3df63b70f17928963a4e8f1aa2fbec62924f9a488ff076d7"), looks := false }, kinds := [], alts := [], laidByText := true, laidKinds := [.data], laidTests := true, laidLooks := .later }
def AmbiguousAllUptoCardSaid : Prop := Claim7.holds Tryz.pinned (.plain (OpenSpec.upto ambiguousAllSpec)) ambiguousAllUptoCard

/-- THE SECOND FORM's CARD OF 'retargetlaw11.AmbiguousSelf'. -/
def ambiguousSelfUptoCard : Claim7 := { stood := { row := ambiguousSelfUptoRow, standIns := [], harness := (true, "563d00feefe192be3df63b70f17928963a4e8f1aa2fbec62924f9a488ff076d7"), looks := false }, kinds := [], alts := [], laidByText := true, laidKinds := [.data], laidTests := true, laidLooks := .later }
def AmbiguousSelfUptoCardSaid : Prop := Claim7.holds Tryz.pinned (.plain (OpenSpec.upto ambiguousSelfSpec)) ambiguousSelfUptoCard

/-- THE SECOND FORM's CARD OF 'retargetlaw11.AmbiguousSpans'. -/
def ambiguousSpansUptoCard : Claim7 := { stood := { row := ambiguousSpansUptoRow, standIns := [], harness := (true, "563d00feefe192be3df63b70f17928963a4e8f1aa2fbec62924f9a488ff076d7"), looks := false }, kinds := [], alts := [], laidByText := true, laidKinds := [.data], laidTests := true, laidLooks := .later }
def AmbiguousSpansUptoCardSaid : Prop := Claim7.holds Tryz.pinned (.plain (OpenSpec.upto ambiguousSpansSpec)) ambiguousSpansUptoCard
end Rows
end Go.Proofs.YtnjlgllpfbkdoaaGreatDoor
