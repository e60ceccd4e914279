/-
  DERIVED. GIVEN WITH THE SEED: THE CARDS: each row of YtnmhpbgiljchkaaDoorRows.lean that lists a variable, with what it lists TIED to the program's text (the seventh form; the later family's looks); each row that meets fmt, with fmt's text TOLD by the authors' own Lean function (tested against real Go, not proved from fmt's source: count such statements apart). THE CARD IS WHAT COUNTS. Prove the row's statement (the work); the ties are given (YtnmhpbgiljchkaaDoorTie.lean); close each card by the builder's one call (the guide's Derived/Test/ToyasCard.lean, 'card_holds'). Laid BY PROGRAM, IN A SANDBOX (cutbox-door.mjs). By AI agents, Wed Nov 11 2026. No macro, syntax, notation, axiom, sorry.
-/
import Derived.Test.YtnmhpbgiljchkaaDoorRows
import GoSem.ClaimSeven
namespace Go.Proofs.YtnmhpbgiljchkaaDoor
namespace Rows

/-- THE TIED CARD OF 'kindredlaw14.RunFiles'. -/
def runFilesCard : Claim7 := { stood := { row := runFilesRow, standIns := [], harness := (true, "29d988eff9cfe95417d1f8e674030e73916e20a840710690ac7a75fdf5c8ef51"), looks := false }, kinds := [], alts := [], laidByText := true, laidKinds := [.data, .data, .data], laidTests := true, laidLooks := .later }
def RunFilesCardSaid : Prop := Claim7.holds Tryd.pinned (.plain (OpenSpec.ofChange runFilesSpec)) runFilesCard

/-- THE SECOND FORM's CARD OF 'kindredlaw14.RunFiles'. -/
def runFilesUptoCard : Claim7 := { stood := { row := runFilesUptoRow, standIns := [], harness := (true, "29d988eff9cfe95417d1f8e674030e73916e20a840710690ac7a75fdf5c8ef51"), looks := false }, kinds := [], alts := [], laidByText := true, laidKinds := [.data, .data, .data], laidTests := true, laidLooks := .later }
def RunFilesUptoCardSaid : Prop := Claim7.holds Tryd.pinned (.plain (OpenSpec.upto runFilesSpec)) runFilesUptoCard
end Rows
end Go.Proofs.YtnmhpbgiljchkaaDoor
