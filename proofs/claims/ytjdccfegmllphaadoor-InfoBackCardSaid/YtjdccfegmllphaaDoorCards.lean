/-
  DERIVED. GIVEN WITH THE SEED: THE CARDS: each row of YtjdccfegmllphaaDoorRows.lean that lists a variable, with what it lists TIED to the program's text (the seventh form; the later family's looks); each row that meets fmt, with fmt's text TOLD by the authors' own Lean function (tested against real Go, not proved from fmt's source: count such statements apart). THE CARD IS WHAT COUNTS. Prove the row's statement (the work); the ties are given (YtjdccfegmllphaaDoorTie.lean); close each card by the builder's one call (the guide's Derived/Test/ToyasCard.lean, 'card_holds'). Laid BY PROGRAM, IN A SANDBOX (cutbox-door.mjs). By AI agents, Wed Nov 11 2026. No macro, syntax, notation, axiom, sorry.
-/
import Derived.Test.YtjdccfegmllphaaDoorRows
import GoSem.ClaimSeven
namespace Go.Proofs.YtjdccfegmllphaaDoor
namespace Rows

/-- THE TIED CARD OF 'ragpickerlaw06.InfoBack'. -/
def infoBackCard : Claim7 := { stood := { row := infoBackRow, standIns := [], harness := (true, "1ec597b6944a3b0bbc83bfc15ead8969aa5627e3a88ef7890b20b53bab3f7e9d"), looks := false }, kinds := [], alts := [], laidByText := true, laidKinds := [.data, .data, .data, .data, .data, .pinned], laidTests := true, laidLooks := .later }
def InfoBackCardSaid : Prop := Claim7.holds Tryd.pinned (.plain (OpenSpec.ofChange infoBackSpec)) infoBackCard

/-- THE TIED CARD OF 'ragpickerlaw06.InfoFirst'. -/
def infoFirstCard : Claim7 := { stood := { row := infoFirstRow, standIns := [], harness := (true, "1ec597b6944a3b0bbc83bfc15ead8969aa5627e3a88ef7890b20b53bab3f7e9d"), looks := false }, kinds := [], alts := [], laidByText := true, laidKinds := [.data, .data, .data, .data, .data, .pinned], laidTests := true, laidLooks := .later }
def InfoFirstCardSaid : Prop := Claim7.holds Tryd.pinned (.plain (OpenSpec.ofChange infoFirstSpec)) infoFirstCard

/-- THE SECOND FORM's CARD OF 'ragpickerlaw06.InfoBack'. -/
def infoBackUptoCard : Claim7 := { stood := { row := infoBackUptoRow, standIns := [], harness := (true, "1ec597b6944a3b0bbc83bfc15ead8969aa5627e3a88ef7890b20b53bab3f7e9d"), looks := false }, kinds := [], alts := [], laidByText := true, laidKinds := [.data, .data, .data, .data, .data, .pinned], laidTests := true, laidLooks := .later }
def InfoBackUptoCardSaid : Prop := Claim7.holds Tryd.pinned (.plain (OpenSpec.upto infoBackSpec)) infoBackUptoCard

/-- THE SECOND FORM's CARD OF 'ragpickerlaw06.InfoFirst'. -/
def infoFirstUptoCard : Claim7 := { stood := { row := infoFirstUptoRow, standIns := [], harness := (true, "1ec597b6944a3b0bbc83bfc15ead8969aa5627e3a88ef7890b20b53bab3f7e9d"), looks := false }, kinds := [], alts := [], laidByText := true, laidKinds := [.data, .data, .data, .data, .data, .pinned], laidTests := true, laidLooks := .later }
def InfoFirstUptoCardSaid : Prop := Claim7.holds Tryd.pinned (.plain (OpenSpec.upto infoFirstSpec)) infoFirstUptoCard
end Rows
end Go.Proofs.YtjdccfegmllphaaDoor
