/-
  DERIVED. GIVEN WITH THE SEED: THE CARDS: each row of YtcamnalmcghjfaaGreatDoorRows.lean that lists a variable, with what it lists TIED to the program's text (the seventh form; the later family's looks); each row that meets fmt, with fmt's text TOLD by the authors' own Lean function (tested against real Go, not proved from fmt's source: count such statements apart). THE CARD IS WHAT COUNTS. Prove the row's statement (the work); the ties are given (YtcamnalmcghjfaaGreatDoorTie.lean); close each card by the builder's one call (the guide's Derived/Test/ToyasCard.lean, 'card_holds'). Laid BY PROGRAM, IN A SANDBOX (cutbox-door.mjs). By AI agents, Wed Nov 11 2026. No macro, syntax, notation, axiom, sorry.
-/
import Derived.Test.YtcamnalmcghjfaaGreatDoorRows
import GoSem.ClaimSeven
namespace Go.Proofs.YtcamnalmcghjfaaGreatDoor
namespace Rows

/-- THE TIED CARD OF 'kindredlaw5.JournalPrefix'. -/
def journalPrefixCard : Claim7 := { stood := { row := journalPrefixRow, standIns := [], harness := (true, "d6fce24982984d7b67daed85670e7b9c240efcca70fa0565b6584cec99672b12"), looks := false }, kinds := [], alts := [], laidByText := true, laidKinds := [.data, .data, .data, .called], laidTests := true, laidLooks := .later }
def JournalPrefixCardSaid : Prop := Claim7.holds Tryz.pinned (.plain (OpenSpec.ofChange journalPrefixSpec)) journalPrefixCard

/-- THE SECOND FORM's CARD OF 'kindredlaw5.JournalPrefix'. -/
def journalPrefixUptoCard : Claim7 := { stood := { row := journalPrefixUptoRow, standIns := [], harness := (true, "d6fce24982984d7b67daed85670e7b9c240efcca70fa0565b6584cec99672b12"), looks := false }, kinds := [], alts := [], laidByText := true, laidKinds := [.data, .data, .data, .called], laidTests := true, laidLooks := .later }
def JournalPrefixUptoCardSaid : Prop := Claim7.holds Tryz.pinned (.plain (OpenSpec.upto journalPrefixSpec)) journalPrefixUptoCard
end Rows
end Go.Proofs.YtcamnalmcghjfaaGreatDoor
