/-
  DERIVED. GIVEN WITH THE SEED: THE CARDS: each row of YtgjfdmnlengbfabDoorRows.lean that lists a variable, with what it lists TIED to the program's text (the seventh form; the later family's looks); each row that meets fmt, with fmt's text TOLD by the authors' own Lean function (tested against real Go, not proved from fmt's source: count such statements apart). THE CARD IS WHAT COUNTS. Prove the row's statement (the work); the ties are given (YtgjfdmnlengbfabDoorTie.lean); close each card by the builder's one call (the guide's Derived/Test/ToyasCard.lean, 'card_holds'). Laid BY PROGRAM, IN A SANDBOX (cutbox-door.mjs). By AI agents, Wed Nov 11 2026. No macro, syntax, notation, axiom, sorry.
-/
import Derived.Test.YtgjfdmnlengbfabDoorRows
import GoSem.ClaimSeven
namespace Go.Proofs.YtgjfdmnlengbfabDoor
namespace Rows

/-- THE TIED CARD OF 'kindredlaw3.SealTorn'. -/
def sealTornCard : Claim7 := { stood := { row := sealTornRow, standIns := [], harness := (true, "5e3f3ad23dc63d85128e28cbc5ccf3af3a6806044ef1793fe71698e29948c077"), looks := false }, kinds := [], alts := [], laidByText := true, laidKinds := [.called], laidTests := true, laidLooks := .later }
def SealTornCardSaid : Prop := Claim7.holds Tryd.pinned (.plain (OpenSpec.ofChange sealTornSpec)) sealTornCard

/-- THE TIED CARD OF 'kindredlaw3.SealFrame'. -/
def sealFrameCard : Claim7 := { stood := { row := sealFrameRow, standIns := [], harness := (true, "5e3f3ad23dc63d85128e28cbc5ccf3af3a6806044ef1793fe71698e29948c077"), looks := false }, kinds := [], alts := [], laidByText := true, laidKinds := [.called], laidTests := true, laidLooks := .later }
def SealFrameCardSaid : Prop := Claim7.holds Tryd.pinned (.plain (OpenSpec.ofChange sealFrameSpec)) sealFrameCard

/-- THE TIED CARD OF 'kindredlaw3.SealParse'. -/
def sealParseCard : Claim7 := { stood := { row := sealParseRow, standIns := [], harness := (true, "5e3f3ad23dc63d85128e28cbc5ccf3af3a6806044ef1793fe71698e29948c077"), looks := false }, kinds := [], alts := [], laidByText := true, laidKinds := [.called], laidTests := true, laidLooks := .later }
def SealParseCardSaid : Prop := Claim7.holds Tryd.pinned (.plain (OpenSpec.ofChange sealParseSpec)) sealParseCard

/-- THE TIED CARD OF 'kindredlaw3.SealFrames'. -/
def sealFramesCard : Claim7 := { stood := { row := sealFramesRow, standIns := [], harness := (true, "5e3f3ad23dc63d85128e28cbc5ccf3af3a6806044ef1793fe71698e29948c077"), looks := false }, kinds := [], alts := [], laidByText := true, laidKinds := [.called], laidTests := true, laidLooks := .later }
def SealFramesCardSaid : Prop := Claim7.holds Tryd.pinned (.plain (OpenSpec.ofChange sealFramesSpec)) sealFramesCard

/-- THE SECOND FORM's CARD OF 'kindredlaw3.SealTorn'. -/
def sealTornUptoCard : Claim7 := { stood := { row := sealTornUptoRow, standIns := [], harness := (true, "5e3f3ad23dc63d85128e28cbc5ccf3af3a6806044ef1793fe71698e29948c077"), looks := false }, kinds := [], alts := [], laidByText := true, laidKinds := [.called], laidTests := true, laidLooks := .later }
def SealTornUptoCardSaid : Prop := Claim7.holds Tryd.pinned (.plain (OpenSpec.upto sealTornSpec)) sealTornUptoCard

/-- THE SECOND FORM's CARD OF 'kindredlaw3.SealFrame'. -/
def sealFrameUptoCard : Claim7 := { stood := { row := sealFrameUptoRow, standIns := [], harness := (true, "5e3f3ad23dc63d85128e28cbc5ccf3af3a6806044ef1793fe71698e29948c077"), looks := false }, kinds := [], alts := [], laidByText := true, laidKinds := [.called], laidTests := true, laidLooks := .later }
def SealFrameUptoCardSaid : Prop := Claim7.holds Tryd.pinned (.plain (OpenSpec.upto sealFrameSpec)) sealFrameUptoCard

/-- THE SECOND FORM's CARD OF 'kindredlaw3.SealParse'. -/
def sealParseUptoCard : Claim7 := { stood := { row := sealParseUptoRow, standIns := [], harness := (true, "5e3f3ad23dc63d85128e28cbc5ccf3af3a6806044ef1793fe71698e29948c077"), looks := false }, kinds := [], alts := [], laidByText := true, laidKinds := [.called], laidTests := true, laidLooks := .later }
def SealParseUptoCardSaid : Prop := Claim7.holds Tryd.pinned (.plain (OpenSpec.upto sealParseSpec)) sealParseUptoCard

/-- THE SECOND FORM's CARD OF 'kindredlaw3.SealFrames'. -/
def sealFramesUptoCard : Claim7 := { stood := { row := sealFramesUptoRow, standIns := [], harness := (true, "5e3f3ad23dc63d85128e28cbc5ccf3af3a6806044ef1793fe71698e29948c077"), looks := false }, kinds := [], alts := [], laidByText := true, laidKinds := [.called], laidTests := true, laidLooks := .later }
def SealFramesUptoCardSaid : Prop := Claim7.holds Tryd.pinned (.plain (OpenSpec.upto sealFramesSpec)) sealFramesUptoCard
end Rows
end Go.Proofs.YtgjfdmnlengbfabDoor
