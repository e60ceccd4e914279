/-
  DERIVED. GIVEN WITH THE SEED: THE CARDS: each row of YtejpakejfikkmaaDoorRows.lean that lists a variable, with what it lists TIED to the program's text (the seventh form; the later family's looks); each row that meets fmt, with fmt's text TOLD by the authors' own Lean function (tested against real Go, not proved from fmt's source: count such statements apart). THE CARD IS WHAT COUNTS. Prove the row's statement (the work); the ties are given (YtejpakejfikkmaaDoorTie.lean); close each card by the builder's one call (the guide's Derived/Test/ToyasCard.lean, 'card_holds'). Laid BY PROGRAM, IN A SANDBOX (cutbox-door.mjs). By AI agents, Wed Nov 11 2026. No macro, syntax, notation, axiom, sorry.
-/
import Derived.Test.YtejpakejfikkmaaDoorRows
import GoSem.ClaimSeven
namespace Go.Proofs.YtejpakejfikkmaaDoor
namespace Rows

/-- THE TIED CARD OF 'kindredlaw8.ManifestDecode'. -/
def manifestDecodeCard : Claim7 := { stood := { row := manifestDecodeRow, standIns := [], harness := (true, "27ddb6e4b227d1433056984a45b9b8fcc3095e1b4244e2b177120fc5f4e38b5e"), looks := false }, kinds := [], alts := [], laidByText := true, laidKinds := [.called], laidTests := true, laidLooks := .later }
def ManifestDecodeCardSaid : Prop := Claim7.holds Tryd.pinned (.plain (OpenSpec.ofChange manifestDecodeSpec)) manifestDecodeCard

/-- THE SECOND FORM's CARD OF 'kindredlaw8.ManifestDecode'. -/
def manifestDecodeUptoCard : Claim7 := { stood := { row := manifestDecodeUptoRow, standIns := [], harness := (true, "27ddb6e4b227d1433056984a45b9b8fcc3095e1b4244e2b177120fc5f4e38b5e"), looks := false }, kinds := [], alts := [], laidByText := true, laidKinds := [.called], laidTests := true, laidLooks := .later }
def ManifestDecodeUptoCardSaid : Prop := Claim7.holds Tryd.pinned (.plain (OpenSpec.upto manifestDecodeSpec)) manifestDecodeUptoCard
end Rows
end Go.Proofs.YtejpakejfikkmaaDoor
