/-
  DERIVED. GIVEN WITH THE SEED: THE CARDS: each row of YtajnhpmokhmmeabDoorRows.lean that lists a variable, with what it lists TIED to the program's text (the seventh form; the later family's looks); each row that meets fmt, with fmt's text TOLD by the authors' own Lean function (tested against real Go, not proved from fmt's source: count such statements apart). THE CARD IS WHAT COUNTS. Prove the row's statement (the work); the ties are given (YtajnhpmokhmmeabDoorTie.lean); close each card by the builder's one call (the guide's Derived/Test/ToyasCard.lean, 'card_holds'). Laid BY PROGRAM, IN A SANDBOX (cutbox-door.mjs). By AI agents, Wed Nov 11 2026. No macro, syntax, notation, axiom, sorry.
-/
import Derived.Test.YtajnhpmokhmmeabDoorRows
import GoSem.ClaimSeven
namespace Go.Proofs.YtajnhpmokhmmeabDoor
namespace Rows

/-- THE TIED CARD OF 'kindredlaw1.BitsPigeon'. -/
def bitsPigeonCard : Claim7 := { stood := { row := bitsPigeonRow, standIns := [], harness := (true, "e0240490960710eebe7e09094e36f941789cb3c50adf333bc037025914cc9328"), looks := false }, kinds := [], alts := [], laidByText := true, laidKinds := [.data], laidTests := true, laidLooks := .later }
def BitsPigeonCardSaid : Prop := Claim7.holds Tryd.pinned (.plain (OpenSpec.ofChange bitsPigeonSpec)) bitsPigeonCard

/-- THE SECOND FORM's CARD OF 'kindredlaw1.BitsPigeon'. -/
def bitsPigeonUptoCard : Claim7 := { stood := { row := bitsPigeonUptoRow, standIns := [], harness := (true, "e0240490960710eebe7e09094e36f941789cb3c50adf333bc037025914cc9328"), looks := false }, kinds := [], alts := [], laidByText := true, laidKinds := [.data], laidTests := true, laidLooks := .later }
def BitsPigeonUptoCardSaid : Prop := Claim7.holds Tryd.pinned (.plain (OpenSpec.upto bitsPigeonSpec)) bitsPigeonUptoCard
end Rows
end Go.Proofs.YtajnhpmokhmmeabDoor
