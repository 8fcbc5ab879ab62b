/-
  DERIVED. GIVEN WITH THE SEED: THE CARDS: each row of YtolobnokpmbajaaDoorRows.lean that lists a variable, with what it lists TIED to the program's text (the seventh form; the later family's looks); each row that meets fmt, with fmt's text TOLD by the authors' own Lean function (tested against real Go, not proved from fmt's source: count such statements apart). THE CARD IS WHAT COUNTS. Prove the row's statement (the work); the ties are given (YtolobnokpmbajaaDoorTie.lean); close each card by the builder's one call (the guide's Derived/Test/ToyasCard.lean, 'card_holds'). Laid BY PROGRAM, IN A SANDBOX (cutbox-door.mjs). By AI agents, Wed Nov 11 2026. No macro, syntax, notation, axiom, sorry.
-/
import Derived.Test.YtolobnokpmbajaaDoorRows
import GoSem.ClaimSeven
namespace Go.Proofs.YtolobnokpmbajaaDoor
namespace Rows

/-- THE TIED CARD OF 'ragpickerlaw07.SizesTells'. -/
def sizesTellsCard : Claim7 := { stood := { row := sizesTellsRow, standIns := [], harness := (true, "4a9ba58db35cc15ee30f782ddfab84ccc12587f313c42735dc71dd77e33b1c49"), looks := false }, kinds := [], alts := [], laidByText := true, laidKinds := [.data, .data, .data, .data, .pinned], laidTests := true, laidLooks := .later }
def SizesTellsCardSaid : Prop := Claim7.holds Tryd.pinned (.plain (OpenSpec.ofChange sizesTellsSpec)) sizesTellsCard

/-- THE TIED CARD OF 'ragpickerlaw07.SizesPlays'. -/
def sizesPlaysCard : Claim7 := { stood := { row := sizesPlaysRow, standIns := [], harness := (true, "4a9ba58db35cc15ee30f782ddfab84ccc12587f313c42735dc71dd77e33b1c49"), looks := false }, kinds := [], alts := [], laidByText := true, laidKinds := [.data, .data, .data, .data, .pinned], laidTests := true, laidLooks := .later }
def SizesPlaysCardSaid : Prop := Claim7.holds Tryd.pinned (.plain (OpenSpec.ofChange sizesPlaysSpec)) sizesPlaysCard

/-- THE TIED CARD OF 'ragpickerlaw07.SizesBack'. -/
def sizesBackCard : Claim7 := { stood := { row := sizesBackRow, standIns := [], harness := (true, "4a9ba58db35cc15ee30f782ddfab84ccc12587f313c42735dc71dd77e33b1c49"), looks := false }, kinds := [], alts := [], laidByText := true, laidKinds := [.data, .data, .data, .data, .pinned], laidTests := true, laidLooks := .later }
def SizesBackCardSaid : Prop := Claim7.holds Tryd.pinned (.plain (OpenSpec.ofChange sizesBackSpec)) sizesBackCard

/-- THE TIED CARD OF 'ragpickerlaw08.TildeTells'. -/
def tildeTellsCard : Claim7 := { stood := { row := tildeTellsRow, standIns := [], harness := (true, "4a9ba58db35cc15ee30f782ddfab84ccc12587f313c42735dc71dd77e33b1c49"), looks := false }, kinds := [], alts := [], laidByText := true, laidKinds := [.data, .data, .data], laidTests := true, laidLooks := .later }
def TildeTellsCardSaid : Prop := Claim7.holds Tryd.pinned (.plain (OpenSpec.ofChange tildeTellsSpec)) tildeTellsCard

/-- THE TIED CARD OF 'ragpickerlaw08.TildeNext'. -/
def tildeNextCard : Claim7 := { stood := { row := tildeNextRow, standIns := [], harness := (true, "4a9ba58db35cc15ee30f782ddfab84ccc12587f313c42735dc71dd77e33b1c49"), looks := false }, kinds := [], alts := [], laidByText := true, laidKinds := [.data, .data, .data], laidTests := true, laidLooks := .later }
def TildeNextCardSaid : Prop := Claim7.holds Tryd.pinned (.plain (OpenSpec.ofChange tildeNextSpec)) tildeNextCard

/-- THE SECOND FORM's CARD OF 'ragpickerlaw07.SizesTells'. -/
def sizesTellsUptoCard : Claim7 := { stood := { row := sizesTellsUptoRow, standIns := [], harness := (true, "4a9ba58db35cc15ee30f782ddfab84ccc12587f313c42735dc71dd77e33b1c49"), looks := false }, kinds := [], alts := [], laidByText := true, laidKinds := [.data, .data, .data, .data, .pinned], laidTests := true, laidLooks := .later }
def SizesTellsUptoCardSaid : Prop := Claim7.holds Tryd.pinned (.plain (OpenSpec.upto sizesTellsSpec)) sizesTellsUptoCard

/-- THE SECOND FORM's CARD OF 'ragpickerlaw07.SizesPlays'. -/
def sizesPlaysUptoCard : Claim7 := { stood := { row := sizesPlaysUptoRow, standIns := [], harness := (true, "4a9ba58db35cc15ee30f782ddfab84ccc12587f313c42735dc71dd77e33b1c49"), looks := false }, kinds := [], alts := [], laidByText := true, laidKinds := [.data, .data, .data, .data, .pinned], laidTests := true, laidLooks := .later }
def SizesPlaysUptoCardSaid : Prop := Claim7.holds Tryd.pinned (.plain (OpenSpec.upto sizesPlaysSpec)) sizesPlaysUptoCard

/-- THE SECOND FORM's CARD OF 'ragpickerlaw07.SizesBack'. -/
def sizesBackUptoCard : Claim7 := { stood := { row := sizesBackUptoRow, standIns := [], harness := (true, "4a9ba58db35cc15ee30f782ddfab84ccc12587f313c42735dc71dd77e33b1c49"), looks := false }, kinds := [], alts := [], laidByText := true, laidKinds := [.data, .data, .data, .data, .pinned], laidTests := true, laidLooks := .later }
def SizesBackUptoCardSaid : Prop := Claim7.holds Tryd.pinned (.plain (OpenSpec.upto sizesBackSpec)) sizesBackUptoCard

/-- THE SECOND FORM's CARD OF 'ragpickerlaw08.TildeTells'. -/
def tildeTellsUptoCard : Claim7 := { stood := { row := tildeTellsUptoRow, standIns := [], harness := (true, "4a9ba58db35cc15ee30f782ddfab84ccc12587f313c42735dc71dd77e33b1c49"), looks := false }, kinds := [], alts := [], laidByText := true, laidKinds := [.data, .data, .data], laidTests := true, laidLooks := .later }
def TildeTellsUptoCardSaid : Prop := Claim7.holds Tryd.pinned (.plain (OpenSpec.upto tildeTellsSpec)) tildeTellsUptoCard

/-- THE SECOND FORM's CARD OF 'ragpickerlaw08.TildeNext'. -/
def tildeNextUptoCard : Claim7 := { stood := { row := tildeNextUptoRow, standIns := [], harness := (true, "4a9ba58db35cc15ee30f782ddfab84ccc12587f313c42735dc71dd77e33b1c49"), looks := false }, kinds := [], alts := [], laidByText := true, laidKinds := [.data, .data, .data], laidTests := true, laidLooks := .later }
def TildeNextUptoCardSaid : Prop := Claim7.holds Tryd.pinned (.plain (OpenSpec.upto tildeNextSpec)) tildeNextUptoCard
end Rows
end Go.Proofs.YtolobnokpmbajaaDoor
