/-
  DERIVED. GIVEN WITH THE SEED: THE CARDS: each row of YtejiogopppjjoaaDoorRows.lean that lists a variable, with what it lists TIED to the program's text (the seventh form; the later family's looks); each row that meets fmt, with fmt's text TOLD by the authors' own Lean function (tested against real Go, not proved from fmt's source: count such statements apart). THE CARD IS WHAT COUNTS. Prove the row's statement (the work); the ties are given (YtejiogopppjjoaaDoorTie.lean); close each card by the builder's one call (the guide's Derived/Test/ToyasCard.lean, 'card_holds'). Laid BY PROGRAM, IN A SANDBOX (cutbox-door.mjs). By AI agents, Wed Nov 11 2026. No macro, syntax, notation, axiom, sorry.
-/
import Derived.Test.YtejiogopppjjoaaDoorRows
import GoSem.ClaimSeven
namespace Go.Proofs.YtejiogopppjjoaaDoor
namespace Rows

/-- THE TIED CARD OF 'ragpickerlaw02.NameTells'. -/
def nameTellsCard : Claim7 := { stood := { row := nameTellsRow, standIns := [], harness := (true, "9914bbe413861918f894a6d933e43d3dea02e21ff89dec5f9ec5e15b0edd4017"), looks := false }, kinds := [], alts := [], laidByText := true, laidKinds := [.data, .pinned], laidTests := true, laidLooks := .later }
def NameTellsCardSaid : Prop := Claim7.holds Tryd.pinned (.plain (OpenSpec.ofChange nameTellsSpec)) nameTellsCard

/-- THE TIED CARD OF 'ragpickerlaw02.NameParts'. -/
def namePartsCard : Claim7 := { stood := { row := namePartsRow, standIns := [], harness := (true, "9914bbe413861918f894a6d933e43d3dea02e21ff89dec5f9ec5e15b0edd4017"), looks := false }, kinds := [], alts := [], laidByText := true, laidKinds := [.data, .pinned], laidTests := true, laidLooks := .later }
def NamePartsCardSaid : Prop := Claim7.holds Tryd.pinned (.plain (OpenSpec.ofChange namePartsSpec)) namePartsCard

/-- THE TIED CARD OF 'ragpickerlaw02.NameStops'. -/
def nameStopsCard : Claim7 := { stood := { row := nameStopsRow, standIns := [], harness := (true, "9914bbe413861918f894a6d933e43d3dea02e21ff89dec5f9ec5e15b0edd4017"), looks := false }, kinds := [], alts := [], laidByText := true, laidKinds := [.data, .pinned], laidTests := true, laidLooks := .later }
def NameStopsCardSaid : Prop := Claim7.holds Tryd.pinned (.plain (OpenSpec.ofChange nameStopsSpec)) nameStopsCard

/-- THE SECOND FORM's CARD OF 'ragpickerlaw02.NameTells'. -/
def nameTellsUptoCard : Claim7 := { stood := { row := nameTellsUptoRow, standIns := [], harness := (true, "9914bbe413861918f894a6d933e43d3dea02e21ff89dec5f9ec5e15b0edd4017"), looks := false }, kinds := [], alts := [], laidByText := true, laidKinds := [.data, .pinned], laidTests := true, laidLooks := .later }
def NameTellsUptoCardSaid : Prop := Claim7.holds Tryd.pinned (.plain (OpenSpec.upto nameTellsSpec)) nameTellsUptoCard

/-- THE SECOND FORM's CARD OF 'ragpickerlaw02.NameParts'. -/
def namePartsUptoCard : Claim7 := { stood := { row := namePartsUptoRow, standIns := [], harness := (true, "9914bbe413861918f894a6d933e43d3dea02e21ff89dec5f9ec5e15b0edd4017"), looks := false }, kinds := [], alts := [], laidByText := true, laidKinds := [.data, .pinned], laidTests := true, laidLooks := .later }
def NamePartsUptoCardSaid : Prop := Claim7.holds Tryd.pinned (.plain (OpenSpec.upto namePartsSpec)) namePartsUptoCard

/-- THE SECOND FORM's CARD OF 'ragpickerlaw02.NameStops'. -/
def nameStopsUptoCard : Claim7 := { stood := { row := nameStopsUptoRow, standIns := [], harness := (true, "9914bbe413861918f894a6d933e43d3dea02e21ff89dec5f9ec5e15b0edd4017"), looks := false }, kinds := [], alts := [], laidByText := true, laidKinds := [.data, .pinned], laidTests := true, laidLooks := .later }
def NameStopsUptoCardSaid : Prop := Claim7.holds Tryd.pinned (.plain (OpenSpec.upto nameStopsSpec)) nameStopsUptoCard
end Rows
end Go.Proofs.YtejiogopppjjoaaDoor
