/-
  DERIVED. GIVEN WITH THE SEED: THE CARDS: each row of YtjdpolhjbkpnlaaGreatDoorRows.lean that lists a variable, with what it lists TIED to the program's text (the seventh form; the later family's looks); each row that meets fmt, with fmt's text TOLD by the authors' own Lean function (tested against real Go, not proved from fmt's source: count such statements apart). THE CARD IS WHAT COUNTS. Prove the row's statement (the work); the ties are given (YtjdpolhjbkpnlaaGreatDoorTie.lean); close each card by the builder's one call (the guide's Derived/Test/ToyasCard.lean, 'card_holds'). Laid BY PROGRAM, IN A SANDBOX (cutbox-door.mjs). By AI agents, Wed Nov 11 2026. No macro, syntax, notation, axiom, sorry.
-/
import Derived.Test.YtjdpolhjbkpnlaaGreatDoorRows
import GoSem.ClaimSeven
namespace Go.Proofs.YtjdpolhjbkpnlaaGreatDoor
namespace Rows

/-- THE TIED CARD OF 'kindredlaw6.BlockOpens'. -/
def blockOpensCard : Claim7 := { stood := { row := blockOpensRow, standIns := [], harness := (true, "02016b4e80cf2b640c9953353f82e6e1838cb1ec96b8cc272dbcbbd2faf4449d"), looks := false }, kinds := [], alts := [], laidByText := true, laidKinds := [.called], laidTests := true, laidLooks := .later }
def BlockOpensCardSaid : Prop := Claim7.holds Tryz.pinned (.plain (OpenSpec.ofChange blockOpensSpec)) blockOpensCard

/-- THE TIED CARD OF 'kindredlaw6.BlockLists'. -/
def blockListsCard : Claim7 := { stood := { row := blockListsRow, standIns := [], harness := (true, "02016b4e80cf2b640c9953353f82e6e1838cb1ec96b8cc272dbcbbd2faf4449d"), looks := false }, kinds := [], alts := [], laidByText := true, laidKinds := [.called], laidTests := true, laidLooks := .later }
def BlockListsCardSaid : Prop := Claim7.holds Tryz.pinned (.plain (OpenSpec.ofChange blockListsSpec)) blockListsCard

/-- THE SECOND FORM's CARD OF 'kindredlaw6.BlockOpens'. -/
def blockOpensUptoCard : Claim7 := { stood := { row := blockOpensUptoRow, standIns := [], harness := (true, "02016b4e80cf2b640c9953353f82e6e1838cb1ec96b8cc272dbcbbd2faf4449d"), looks := false }, kinds := [], alts := [], laidByText := true, laidKinds := [.called], laidTests := true, laidLooks := .later }
def BlockOpensUptoCardSaid : Prop := Claim7.holds Tryz.pinned (.plain (OpenSpec.upto blockOpensSpec)) blockOpensUptoCard

/-- THE SECOND FORM's CARD OF 'kindredlaw6.BlockLists'. -/
def blockListsUptoCard : Claim7 := { stood := { row := blockListsUptoRow, standIns := [], harness := (true, "02016b4e80cf2b640c9953353f82e6e1838cb1ec96b8cc272dbcbbd2faf4449d"), looks := false }, kinds := [], alts := [], laidByText := true, laidKinds := [.called], laidTests := true, laidLooks := .later }
def BlockListsUptoCardSaid : Prop := Claim7.holds Tryz.pinned (.plain (OpenSpec.upto blockListsSpec)) blockListsUptoCard
end Rows
end Go.Proofs.YtjdpolhjbkpnlaaGreatDoor
