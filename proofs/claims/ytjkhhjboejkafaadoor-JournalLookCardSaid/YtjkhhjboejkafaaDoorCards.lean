/-
  DERIVED. GIVEN WITH THE SEED: THE CARDS: each row of YtjkhhjboejkafaaDoorRows.lean that lists a variable, with what it lists TIED to the program's text (the seventh form; the later family's looks); each row that meets fmt, with fmt's text TOLD by the authors' own Lean function (tested against real Go, not proved from fmt's source: count such statements apart). THE CARD IS WHAT COUNTS. Prove the row's statement (the work); the ties are given (YtjkhhjboejkafaaDoorTie.lean); close each card by the builder's one call (the guide's Derived/Test/ToyasCard.lean, 'card_holds'). Laid BY PROGRAM, IN A SANDBOX (cutbox-door.mjs). By AI agents, Wed Nov 11 2026. No macro, syntax, notation, axiom, sorry.
-/
import Derived.Test.YtjkhhjboejkafaaDoorRows
import GoSem.ClaimSeven
namespace Go.Proofs.YtjkhhjboejkafaaDoor
namespace Rows

/-- THE TIED CARD OF 'kindredlaw5.JournalLook'. -/
def journalLookCard : Claim7 := { stood := { row := journalLookRow, standIns := [], harness := (true, "d982bd08c6477893da95ef353f75971c64281bb1b30521e32262f0a19b23faeb"), looks := false }, kinds := [], alts := [], laidByText := true, laidKinds := [.data, .data, .data, .called], laidTests := true, laidLooks := .later }
def JournalLookCardSaid : Prop := Claim7.holds Tryd.pinned (.plain (OpenSpec.ofChange journalLookSpec)) journalLookCard

/-- THE SECOND FORM's CARD OF 'kindredlaw5.JournalLook'. -/
def journalLookUptoCard : Claim7 := { stood := { row := journalLookUptoRow, standIns := [], harness := (true, "d982bd08c6477893da95ef353f75971c64281bb1b30521e32262f0a19b23faeb"), looks := false }, kinds := [], alts := [], laidByText := true, laidKinds := [.data, .data, .data, .called], laidTests := true, laidLooks := .later }
def JournalLookUptoCardSaid : Prop := Claim7.holds Tryd.pinned (.plain (OpenSpec.upto journalLookSpec)) journalLookUptoCard
end Rows
end Go.Proofs.YtjkhhjboejkafaaDoor
