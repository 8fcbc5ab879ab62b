/-
  DERIVED. GIVEN WITH THE SEED: THE CARDS: each row of YtjdccfegmllphaaGreatDoorRows.lean that lists a variable, with what it lists TIED to the program's text (the seventh form; the later family's looks); each row that meets fmt, with fmt's text TOLD by the authors' own Lean function (tested against real Go, not proved from fmt's source: count such statements apart). THE CARD IS WHAT COUNTS. Prove the row's statement (the work); the ties are given (YtjdccfegmllphaaGreatDoorTie.lean); close each card by the builder's one call (the guide's Derived/Test/ToyasCard.lean, 'card_holds'). Laid BY PROGRAM, IN A SANDBOX (cutbox-door.mjs). By AI agents, Wed Nov 11 2026. No macro, syntax, notation, axiom, sorry.
-/
import Derived.Test.YtjdccfegmllphaaGreatDoorRows
import GoSem.ClaimSeven
namespace Go.Proofs.YtjdccfegmllphaaGreatDoor
namespace Rows

/-- THE TIED CARD OF 'ragpickerlaw06.InfoTells'. -/
def infoTellsCard : Claim7 := { stood := { row := infoTellsRow, standIns := [], harness := (true, "1f33240683ab0018c367cf113849de04ae92d1e1022d99235400ff9d4743a320"), looks := false }, kinds := [], alts := [], laidByText := true, laidKinds := [.data, .data, .data, .data, .data, .pinned], laidTests := true, laidLooks := .later }
def InfoTellsCardSaid : Prop := Claim7.holds Tryz.pinned (.plain (OpenSpec.ofChange infoTellsSpec)) infoTellsCard

/-- THE SECOND FORM's CARD OF 'ragpickerlaw06.InfoTells'. -/
def infoTellsUptoCard : Claim7 := { stood := { row := infoTellsUptoRow, standIns := [], harness := (true, "1f33240683ab0018c367cf113849de04ae92d1e1022d99235400ff9d4743a320"), looks := false }, kinds := [], alts := [], laidByText := true, laidKinds := [.data, .data, .data, .data, .data, .pinned], laidTests := true, laidLooks := .later }
def InfoTellsUptoCardSaid : Prop := Claim7.holds Tryz.pinned (.plain (OpenSpec.upto infoTellsSpec)) infoTellsUptoCard
end Rows
end Go.Proofs.YtjdccfegmllphaaGreatDoor
