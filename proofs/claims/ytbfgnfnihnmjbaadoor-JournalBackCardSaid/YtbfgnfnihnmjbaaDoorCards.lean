/-
  DERIVED. GIVEN WITH THE SEED: THE CARDS: each row of YtbfgnfnihnmjbaaDoorRows.lean that lists a variable, with what it lists TIED to the program's text (the seventh form; the later family's looks); each row that meets fmt, with fmt's text TOLD by the authors' own Lean function (tested against real Go, not proved from fmt's source: count such statements apart). THE CARD IS WHAT COUNTS. Prove the row's statement (the work); the ties are given (YtbfgnfnihnmjbaaDoorTie.lean); close each card by the builder's one call (the guide's Derived/Test/ToyasCard.lean, 'card_holds'). Laid BY PROGRAM, IN A SANDBOX (cutbox-door.mjs). By AI agents, Wed Nov 11 2026. No macro, syntax, notation, axiom, sorry.
-/
import Derived.Test.YtbfgnfnihnmjbaaDoorRows
import GoSem.ClaimSeven
namespace Go.Proofs.YtbfgnfnihnmjbaaDoor
namespace Rows

/-- THE TIED CARD OF 'kindredlaw5.JournalBack'. -/
def journalBackCard : Claim7 := { stood := { row := journalBackRow, standIns := [], harness := (true, "7730bab1e7b39aa7ed24c0e49ac1264b1020d3434bc33b5022f16399bcf9216e"), looks := false }, kinds := [], alts := [], laidByText := true, laidKinds := [.called], laidTests := true, laidLooks := .later }
def JournalBackCardSaid : Prop := Claim7.holds Tryd.pinned (.plain (OpenSpec.ofChange journalBackSpec)) journalBackCard

/-- THE TIED CARD OF 'kindredlaw5.JournalRead'. -/
def journalReadCard : Claim7 := { stood := { row := journalReadRow, standIns := [], harness := (true, "7730bab1e7b39aa7ed24c0e49ac1264b1020d3434bc33b5022f16399bcf9216e"), looks := false }, kinds := [], alts := [], laidByText := true, laidKinds := [.called], laidTests := true, laidLooks := .later }
def JournalReadCardSaid : Prop := Claim7.holds Tryd.pinned (.plain (OpenSpec.ofChange journalReadSpec)) journalReadCard

/-- THE TIED CARD OF 'kindredlaw5.JournalNames'. -/
def journalNamesCard : Claim7 := { stood := { row := journalNamesRow, standIns := [], harness := (true, "7730bab1e7b39aa7ed24c0e49ac1264b1020d3434bc33b5022f16399bcf9216e"), looks := false }, kinds := [], alts := [], laidByText := true, laidKinds := [.data, .data, .data, .called], laidTests := true, laidLooks := .later }
def JournalNamesCardSaid : Prop := Claim7.holds Tryd.pinned (.plain (OpenSpec.ofChange journalNamesSpec)) journalNamesCard

/-- THE TIED CARD OF 'kindredlaw5.JournalWrite'. -/
def journalWriteCard : Claim7 := { stood := { row := journalWriteRow, standIns := [], harness := (true, "7730bab1e7b39aa7ed24c0e49ac1264b1020d3434bc33b5022f16399bcf9216e"), looks := false }, kinds := [], alts := [], laidByText := true, laidKinds := [.data, .data, .data, .called], laidTests := true, laidLooks := .later }
def JournalWriteCardSaid : Prop := Claim7.holds Tryd.pinned (.plain (OpenSpec.ofChange journalWriteSpec)) journalWriteCard

/-- THE TIED CARD OF 'kindredlaw5.JournalLook'. -/
def journalLookCard : Claim7 := { stood := { row := journalLookRow, standIns := [], harness := (true, "7730bab1e7b39aa7ed24c0e49ac1264b1020d3434bc33b5022f16399bcf9216e"), looks := false }, kinds := [], alts := [], laidByText := true, laidKinds := [.data, .data, .data, .called], laidTests := true, laidLooks := .later }
def JournalLookCardSaid : Prop := Claim7.holds Tryd.pinned (.plain (OpenSpec.ofChange journalLookSpec)) journalLookCard

/-- THE SECOND FORM's CARD OF 'kindredlaw5.JournalBack'. -/
def journalBackUptoCard : Claim7 := { stood := { row := journalBackUptoRow, standIns := [], harness := (true, "7730bab1e7b39aa7ed24c0e49ac1264b1020d3434bc33b5022f16399bcf9216e"), looks := false }, kinds := [], alts := [], laidByText := true, laidKinds := [.called], laidTests := true, laidLooks := .later }
def JournalBackUptoCardSaid : Prop := Claim7.holds Tryd.pinned (.plain (OpenSpec.upto journalBackSpec)) journalBackUptoCard

/-- THE SECOND FORM's CARD OF 'kindredlaw5.JournalRead'. -/
def journalReadUptoCard : Claim7 := { stood := { row := journalReadUptoRow, standIns := [], harness := (true, "7730bab1e7b39aa7ed24c0e49ac1264b1020d3434bc33b5022f16399bcf9216e"), looks := false }, kinds := [], alts := [], laidByText := true, laidKinds := [.called], laidTests := true, laidLooks := .later }
def JournalReadUptoCardSaid : Prop := Claim7.holds Tryd.pinned (.plain (OpenSpec.upto journalReadSpec)) journalReadUptoCard

/-- THE SECOND FORM's CARD OF 'kindredlaw5.JournalNames'. -/
def journalNamesUptoCard : Claim7 := { stood := { row := journalNamesUptoRow, standIns := [], harness := (true, "7730bab1e7b39aa7ed24c0e49ac1264b1020d3434bc33b5022f16399bcf9216e"), looks := false }, kinds := [], alts := [], laidByText := true, laidKinds := [.data, .data, .data, .called], laidTests := true, laidLooks := .later }
def JournalNamesUptoCardSaid : Prop := Claim7.holds Tryd.pinned (.plain (OpenSpec.upto journalNamesSpec)) journalNamesUptoCard

/-- THE SECOND FORM's CARD OF 'kindredlaw5.JournalWrite'. -/
def journalWriteUptoCard : Claim7 := { stood := { row := journalWriteUptoRow, standIns := [], harness := (true, "7730bab1e7b39aa7ed24c0e49ac1264b1020d3434bc33b5022f16399bcf9216e"), looks := false }, kinds := [], alts := [], laidByText := true, laidKinds := [.data, .data, .data, .called], laidTests := true, laidLooks := .later }
def JournalWriteUptoCardSaid : Prop := Claim7.holds Tryd.pinned (.plain (OpenSpec.upto journalWriteSpec)) journalWriteUptoCard

/-- THE SECOND FORM's CARD OF 'kindredlaw5.JournalLook'. -/
def journalLookUptoCard : Claim7 := { stood := { row := journalLookUptoRow, standIns := [], harness := (true, "7730bab1e7b39aa7ed24c0e49ac1264b1020d3434bc33b5022f16399bcf9216e"), looks := false }, kinds := [], alts := [], laidByText := true, laidKinds := [.data, .data, .data, .called], laidTests := true, laidLooks := .later }
def JournalLookUptoCardSaid : Prop := Claim7.holds Tryd.pinned (.plain (OpenSpec.upto journalLookSpec)) journalLookUptoCard
end Rows
end Go.Proofs.YtbfgnfnihnmjbaaDoor
