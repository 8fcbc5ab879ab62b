/-
  DERIVED. GIVEN WITH THE SEED: THE CARDS: each row of YtpgikopajbjjhaaDoorRows.lean that lists a variable, with what it lists TIED to the program's text (the seventh form; the later family's looks); each row that meets fmt, with fmt's text TOLD by the authors' own Lean function (tested against real Go, not proved from fmt's source: count such statements apart). THE CARD IS WHAT COUNTS. Prove the row's statement (the work); the ties are given (YtpgikopajbjjhaaDoorTie.lean); close each card by the builder's one call (the guide's Derived/Test/ToyasCard.lean, 'card_holds'). Laid BY PROGRAM, IN A SANDBOX (cutbox-door.mjs). By AI agents, Wed Nov 11 2026. No macro, syntax, notation, axiom, sorry.
-/
import Derived.Test.YtpgikopajbjjhaaDoorRows
import GoSem.ClaimSeven
namespace Go.Proofs.YtpgikopajbjjhaaDoor
namespace Rows

/-- THE TIED CARD OF 'ragpickerlaw09.FreshTells'. -/
def freshTellsCard : Claim7 := { stood := { row := freshTellsRow, standIns := [], harness := (true, "5a81fcd5381d641199f17539c76203b292d2653bc1b5f3425ce7af97e5b45ab8"), looks := false }, kinds := [], alts := [], laidByText := true, laidKinds := [.data, .data, .data], laidTests := true, laidLooks := .later }
def FreshTellsCardSaid : Prop := Claim7.holds Tryd.pinned (.plain (OpenSpec.ofChange freshTellsSpec)) freshTellsCard

/-- THE TIED CARD OF 'ragpickerlaw09.FreshFree'. -/
def freshFreeCard : Claim7 := { stood := { row := freshFreeRow, standIns := [], harness := (true, "5a81fcd5381d641199f17539c76203b292d2653bc1b5f3425ce7af97e5b45ab8"), looks := false }, kinds := [], alts := [], laidByText := true, laidKinds := [.data, .data, .data], laidTests := true, laidLooks := .later }
def FreshFreeCardSaid : Prop := Claim7.holds Tryd.pinned (.plain (OpenSpec.ofChange freshFreeSpec)) freshFreeCard

/-- THE TIED CARD OF 'ragpickerlaw09.FreshApart'. -/
def freshApartCard : Claim7 := { stood := { row := freshApartRow, standIns := [], harness := (true, "5a81fcd5381d641199f17539c76203b292d2653bc1b5f3425ce7af97e5b45ab8"), looks := false }, kinds := [], alts := [], laidByText := true, laidKinds := [.data, .data, .data], laidTests := true, laidLooks := .later }
def FreshApartCardSaid : Prop := Claim7.holds Tryd.pinned (.plain (OpenSpec.ofChange freshApartSpec)) freshApartCard

/-- THE SECOND FORM's CARD OF 'ragpickerlaw09.FreshTells'. -/
def freshTellsUptoCard : Claim7 := { stood := { row := freshTellsUptoRow, standIns := [], harness := (true, "5a81fcd5381d641199f17539c76203b292d2653bc1b5f3425ce7af97e5b45ab8"), looks := false }, kinds := [], alts := [], laidByText := true, laidKinds := [.data, .data, .data], laidTests := true, laidLooks := .later }
def FreshTellsUptoCardSaid : Prop := Claim7.holds Tryd.pinned (.plain (OpenSpec.upto freshTellsSpec)) freshTellsUptoCard

/-- THE SECOND FORM's CARD OF 'ragpickerlaw09.FreshFree'. -/
def freshFreeUptoCard : Claim7 := { stood := { row := freshFreeUptoRow, standIns := [], harness := (true, "5a81fcd5381d641199f17539c76203b292d2653bc1b5f3425ce7af97e5b45ab8"), looks := false }, kinds := [], alts := [], laidByText := true, laidKinds := [.data, .data, .data], laidTests := true, laidLooks := .later }
def FreshFreeUptoCardSaid : Prop := Claim7.holds Tryd.pinned (.plain (OpenSpec.upto freshFreeSpec)) freshFreeUptoCard

/-- THE SECOND FORM's CARD OF 'ragpickerlaw09.FreshApart'. -/
def freshApartUptoCard : Claim7 := { stood := { row := freshApartUptoRow, standIns := [], harness := (true, "5a81fcd5381d641199f17539c76203b292d2653bc1b5f3425ce7af97e5b45ab8"), looks := false }, kinds := [], alts := [], laidByText := true, laidKinds := [.data, .data, .data], laidTests := true, laidLooks := .later }
def FreshApartUptoCardSaid : Prop := Claim7.holds Tryd.pinned (.plain (OpenSpec.upto freshApartSpec)) freshApartUptoCard
end Rows
end Go.Proofs.YtpgikopajbjjhaaDoor
