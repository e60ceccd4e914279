/-
  DERIVED. GIVEN WITH THE SEED: THE CARDS: each row of YteiaopjpnfhbgabDoorRows.lean that lists a variable, with what it lists TIED to the program's text (the seventh form; the later family's looks); each row that meets fmt, with fmt's text TOLD by the authors' own Lean function (tested against real Go, not proved from fmt's source: count such statements apart). THE CARD IS WHAT COUNTS. Prove the row's statement (the work); the ties are given (YteiaopjpnfhbgabDoorTie.lean); close each card by the builder's one call (the guide's Derived/Test/ToyasCard.lean, 'card_holds'). Laid BY PROGRAM, IN A SANDBOX (cutbox-door.mjs). By AI agents, Wed Nov 11 2026. No macro, syntax, notation, axiom, sorry.
-/
import Derived.Test.YteiaopjpnfhbgabDoorRows
import GoSem.ClaimSeven
namespace Go.Proofs.YteiaopjpnfhbgabDoor
namespace Rows

/-- THE TIED CARD OF 'kindredlaw2.MasksWalk'. -/
def masksWalkCard : Claim7 := { stood := { row := masksWalkRow, standIns := [], harness := (true, "dc01938c6133649435ab2932701fcd04682291ad06b1b229a3ed7e75329d6d84"), looks := false }, kinds := [], alts := [], laidByText := true, laidKinds := [.data], laidTests := true, laidLooks := .later }
def MasksWalkCardSaid : Prop := Claim7.holds Tryd.pinned (.plain (OpenSpec.ofChange masksWalkSpec)) masksWalkCard

/-- THE TIED CARD OF 'kindredlaw2.MasksShell'. -/
def masksShellCard : Claim7 := { stood := { row := masksShellRow, standIns := [], harness := (true, "dc01938c6133649435ab2932701fcd04682291ad06b1b229a3ed7e75329d6d84"), looks := false }, kinds := [], alts := [], laidByText := true, laidKinds := [.data], laidTests := true, laidLooks := .later }
def MasksShellCardSaid : Prop := Claim7.holds Tryd.pinned (.plain (OpenSpec.ofChange masksShellSpec)) masksShellCard

/-- THE TIED CARD OF 'kindredlaw2.MasksBetween'. -/
def masksBetweenCard : Claim7 := { stood := { row := masksBetweenRow, standIns := [], harness := (true, "dc01938c6133649435ab2932701fcd04682291ad06b1b229a3ed7e75329d6d84"), looks := false }, kinds := [], alts := [], laidByText := true, laidKinds := [.data], laidTests := true, laidLooks := .later }
def MasksBetweenCardSaid : Prop := Claim7.holds Tryd.pinned (.plain (OpenSpec.ofChange masksBetweenSpec)) masksBetweenCard

/-- THE SECOND FORM's CARD OF 'kindredlaw2.MasksWalk'. -/
def masksWalkUptoCard : Claim7 := { stood := { row := masksWalkUptoRow, standIns := [], harness := (true, "dc01938c6133649435ab2932701fcd04682291ad06b1b229a3ed7e75329d6d84"), looks := false }, kinds := [], alts := [], laidByText := true, laidKinds := [.data], laidTests := true, laidLooks := .later }
def MasksWalkUptoCardSaid : Prop := Claim7.holds Tryd.pinned (.plain (OpenSpec.upto masksWalkSpec)) masksWalkUptoCard

/-- THE SECOND FORM's CARD OF 'kindredlaw2.MasksShell'. -/
def masksShellUptoCard : Claim7 := { stood := { row := masksShellUptoRow, standIns := [], harness := (true, "dc01938c6133649435ab2932701fcd04682291ad06b1b229a3ed7e75329d6d84"), looks := false }, kinds := [], alts := [], laidByText := true, laidKinds := [.data], laidTests := true, laidLooks := .later }
def MasksShellUptoCardSaid : Prop := Claim7.holds Tryd.pinned (.plain (OpenSpec.upto masksShellSpec)) masksShellUptoCard

/-- THE SECOND FORM's CARD OF 'kindredlaw2.MasksBetween'. -/
def masksBetweenUptoCard : Claim7 := { stood := { row := masksBetweenUptoRow, standIns := [], harness := (true, "dc01938c6133649435ab2932701fcd04682291ad06b1b229a3ed7e75329d6d84"), looks := false }, kinds := [], alts := [], laidByText := true, laidKinds := [.data], laidTests := true, laidLooks := .later }
def MasksBetweenUptoCardSaid : Prop := Claim7.holds Tryd.pinned (.plain (OpenSpec.upto masksBetweenSpec)) masksBetweenUptoCard
end Rows
end Go.Proofs.YteiaopjpnfhbgabDoor
