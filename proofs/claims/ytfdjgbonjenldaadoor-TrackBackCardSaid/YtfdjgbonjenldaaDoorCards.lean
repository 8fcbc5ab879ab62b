/-
  DERIVED. GIVEN WITH THE SEED: THE CARDS: each row of YtfdjgbonjenldaaDoorRows.lean that lists a variable, with what it lists TIED to the program's text (the seventh form; the later family's looks); each row that meets fmt, with fmt's text TOLD by the authors' own Lean function (tested against real Go, not proved from fmt's source: count such statements apart). THE CARD IS WHAT COUNTS. Prove the row's statement (the work); the ties are given (YtfdjgbonjenldaaDoorTie.lean); close each card by the builder's one call (the guide's Derived/Test/ToyasCard.lean, 'card_holds'). Laid BY PROGRAM, IN A SANDBOX (cutbox-door.mjs). By AI agents, Wed Nov 11 2026. No macro, syntax, notation, axiom, sorry.
-/
import Derived.Test.YtfdjgbonjenldaaDoorRows
import GoSem.ClaimSeven
namespace Go.Proofs.YtfdjgbonjenldaaDoor
namespace Rows

/-- THE TIED CARD OF 'ragpickerlaw03.TrackTells'. -/
def trackTellsCard : Claim7 := { stood := { row := trackTellsRow, standIns := [], harness := (true, "1f18442c781dea3a5d2e076ed423f21bf92fcfa93e3811b9a72bcf6f670cd12d"), looks := false }, kinds := [], alts := [], laidByText := true, laidKinds := [.data, .pinned], laidTests := true, laidLooks := .later }
def TrackTellsCardSaid : Prop := Claim7.holds Tryd.pinned (.plain (OpenSpec.ofChange trackTellsSpec)) trackTellsCard

/-- THE TIED CARD OF 'ragpickerlaw03.TrackOnce'. -/
def trackOnceCard : Claim7 := { stood := { row := trackOnceRow, standIns := [], harness := (true, "1f18442c781dea3a5d2e076ed423f21bf92fcfa93e3811b9a72bcf6f670cd12d"), looks := false }, kinds := [], alts := [], laidByText := true, laidKinds := [.data, .pinned], laidTests := true, laidLooks := .later }
def TrackOnceCardSaid : Prop := Claim7.holds Tryd.pinned (.plain (OpenSpec.ofChange trackOnceSpec)) trackOnceCard

/-- THE TIED CARD OF 'ragpickerlaw03.TrackBack'. -/
def trackBackCard : Claim7 := { stood := { row := trackBackRow, standIns := [], harness := (true, "1f18442c781dea3a5d2e076ed423f21bf92fcfa93e3811b9a72bcf6f670cd12d"), looks := false }, kinds := [], alts := [], laidByText := true, laidKinds := [.data, .pinned], laidTests := true, laidLooks := .later }
def TrackBackCardSaid : Prop := Claim7.holds Tryd.pinned (.plain (OpenSpec.ofChange trackBackSpec)) trackBackCard

/-- THE SECOND FORM's CARD OF 'ragpickerlaw03.TrackTells'. -/
def trackTellsUptoCard : Claim7 := { stood := { row := trackTellsUptoRow, standIns := [], harness := (true, "1f18442c781dea3a5d2e076ed423f21bf92fcfa93e3811b9a72bcf6f670cd12d"), looks := false }, kinds := [], alts := [], laidByText := true, laidKinds := [.data, .pinned], laidTests := true, laidLooks := .later }
def TrackTellsUptoCardSaid : Prop := Claim7.holds Tryd.pinned (.plain (OpenSpec.upto trackTellsSpec)) trackTellsUptoCard

/-- THE SECOND FORM's CARD OF 'ragpickerlaw03.TrackOnce'. -/
def trackOnceUptoCard : Claim7 := { stood := { row := trackOnceUptoRow, standIns := [], harness := (true, "1f18442c781dea3a5d2e076ed423f21bf92fcfa93e3811b9a72bcf6f670cd12d"), looks := false }, kinds := [], alts := [], laidByText := true, laidKinds := [.data, .pinned], laidTests := true, laidLooks := .later }
def TrackOnceUptoCardSaid : Prop := Claim7.holds Tryd.pinned (.plain (OpenSpec.upto trackOnceSpec)) trackOnceUptoCard

/-- THE SECOND FORM's CARD OF 'ragpickerlaw03.TrackBack'. -/
def trackBackUptoCard : Claim7 := { stood := { row := trackBackUptoRow, standIns := [], harness := (true, "1f18442c781dea3a5d2e076ed423f21bf92fcfa93e3811b9a72bcf6f670cd12d"), looks := false }, kinds := [], alts := [], laidByText := true, laidKinds := [.data, .pinned], laidTests := true, laidLooks := .later }
def TrackBackUptoCardSaid : Prop := Claim7.holds Tryd.pinned (.plain (OpenSpec.upto trackBackSpec)) trackBackUptoCard
end Rows
end Go.Proofs.YtfdjgbonjenldaaDoor
