/-
  DERIVED. GIVEN WITH THE SEED: THE CARDS: each row of YtfijjlkhgelmoaaGreatDoorRows.lean that lists a variable, with what it lists TIED to the program's text (the seventh form; the later family's looks); each row that meets fmt, with fmt's text TOLD by the authors' own Lean function (tested against real Go, not proved from fmt's source: count such statements apart). THE CARD IS WHAT COUNTS. Prove the row's statement (the work); the ties are given (YtfijjlkhgelmoaaGreatDoorTie.lean); close each card by the builder's one call (the guide's Derived/Test/ToyasCard.lean, 'card_holds'). Laid BY PROGRAM, IN A SANDBOX (cutbox-door.mjs). By AI agents, Wed Nov 11 2026. No macro, syntax, notation, axiom, sorry.
-/
import Derived.Test.YtfijjlkhgelmoaaGreatDoorRows
import GoSem.ClaimSeven
namespace Go.Proofs.YtfijjlkhgelmoaaGreatDoor
namespace Rows

/-- THE TIED CARD OF 'kindredlaw5.JournalForged'. -/
def journalForgedCard : Claim7 := { stood := { row := journalForgedRow, standIns := [], harness := (true, "924f0ff4b2626e451945783e30d63ae48b66315dfdd952dac4f65e51bf9470a6"), looks := false }, kinds := [], alts := [], laidByText := true, laidKinds := [.data, .data, .data, .called], laidTests := true, laidLooks := .later }
def JournalForgedCardSaid : Prop := Claim7.holds Tryz.pinned (.plain (OpenSpec.ofChange journalForgedSpec)) journalForgedCard

/-- THE SECOND FORM's CARD OF 'kindredlaw5.JournalForged'. -/
def journalForgedUptoCard : Claim7 := { stood := { row := journalForgedUptoRow, standIns := [], harness := (true, "924f0ff4b2626e451945783e30d63ae48b66315dfdd952dac4f65e51bf9470a6"), looks := false }, kinds := [], alts := [], laidByText := true, laidKinds := [.data, .data, .data, .called], laidTests := true, laidLooks := .later }
def JournalForgedUptoCardSaid : Prop := Claim7.holds Tryz.pinned (.plain (OpenSpec.upto journalForgedSpec)) journalForgedUptoCard
end Rows
end Go.Proofs.YtfijjlkhgelmoaaGreatDoor
