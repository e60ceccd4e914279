/-
  DERIVED. GIVEN WITH THE SEED: THE CARDS: each row of YtibjneoiombbfaaDoorRows.lean that lists a variable, with what it lists TIED to the program's text (the seventh form; the later family's looks); each row that meets fmt, with fmt's text TOLD by the authors' own Lean function (tested against real Go, not proved from fmt's source: count such statements apart). THE CARD IS WHAT COUNTS. Prove the row's statement (the work); the ties are given (YtibjneoiombbfaaDoorTie.lean); close each card by the builder's one call (the guide's Derived/Test/ToyasCard.lean, 'card_holds'). Laid BY PROGRAM, IN A SANDBOX (cutbox-door.mjs). By AI agents, Wed Nov 11 2026. No macro, syntax, notation, axiom, sorry.
-/
import Derived.Test.YtibjneoiombbfaaDoorRows
import GoSem.ClaimSeven
namespace Go.Proofs.YtibjneoiombbfaaDoor
namespace Rows

/-- THE TIED CARD OF 'kindredlaw8.ManifestBack'. -/
def manifestBackCard : Claim7 := { stood := { row := manifestBackRow, standIns := [], harness := (true, "6d13d61a0323edaae1a027ea5df7dd52d8e5d0cf0d2b7f4184a785188a148e64"), looks := true }, kinds := [], alts := [], laidByText := true, laidKinds := [.called], laidTests := true, laidLooks := .later }
def ManifestBackCardSaid : Prop := Claim7.holds Tryd.pinned (.plain (OpenSpec.ofChange manifestBackSpec)) manifestBackCard

/-- THE TIED CARD OF 'kindredlaw8.ManifestCheck'. -/
def manifestCheckCard : Claim7 := { stood := { row := manifestCheckRow, standIns := [], harness := (true, "6d13d61a0323edaae1a027ea5df7dd52d8e5d0cf0d2b7f4184a785188a148e64"), looks := true }, kinds := [], alts := [], laidByText := true, laidKinds := [.called], laidTests := true, laidLooks := .later }
def ManifestCheckCardSaid : Prop := Claim7.holds Tryd.pinned (.plain (OpenSpec.ofChange manifestCheckSpec)) manifestCheckCard

/-- THE TIED CARD OF 'kindredlaw8.ManifestDecode'. -/
def manifestDecodeCard : Claim7 := { stood := { row := manifestDecodeRow, standIns := [], harness := (true, "6d13d61a0323edaae1a027ea5df7dd52d8e5d0cf0d2b7f4184a785188a148e64"), looks := true }, kinds := [], alts := [], laidByText := true, laidKinds := [.called], laidTests := true, laidLooks := .later }
def ManifestDecodeCardSaid : Prop := Claim7.holds Tryd.pinned (.plain (OpenSpec.ofChange manifestDecodeSpec)) manifestDecodeCard

/-- THE TIED CARD OF 'kindredlaw8.ManifestOurs'. -/
def manifestOursCard : Claim7 := { stood := { row := manifestOursRow, standIns := [], harness := (true, "6d13d61a0323edaae1a027ea5df7dd52d8e5d0cf0d2b7f4184a785188a148e64"), looks := true }, kinds := [], alts := [], laidByText := true, laidKinds := [.data, .data, .data, .sentinel, .sentinel], laidTests := true, laidLooks := .later }
def ManifestOursCardSaid : Prop := Claim7.holds Tryd.pinned (.plain (OpenSpec.ofChange manifestOursSpec)) manifestOursCard

/-- THE TIED CARD OF 'kindredlaw8.ManifestKind'. -/
def manifestKindCard : Claim7 := { stood := { row := manifestKindRow, standIns := [], harness := (true, "6d13d61a0323edaae1a027ea5df7dd52d8e5d0cf0d2b7f4184a785188a148e64"), looks := true }, kinds := [], alts := [], laidByText := true, laidKinds := [.data, .data, .data, .sentinel, .sentinel], laidTests := true, laidLooks := .later }
def ManifestKindCardSaid : Prop := Claim7.holds Tryd.pinned (.plain (OpenSpec.ofChange manifestKindSpec)) manifestKindCard

/-- THE TIED CARD OF 'kindredlaw8.ManifestNames'. -/
def manifestNamesCard : Claim7 := { stood := { row := manifestNamesRow, standIns := [], harness := (true, "6d13d61a0323edaae1a027ea5df7dd52d8e5d0cf0d2b7f4184a785188a148e64"), looks := true }, kinds := [], alts := [], laidByText := true, laidKinds := [.data, .data, .data, .sentinel, .sentinel], laidTests := true, laidLooks := .later }
def ManifestNamesCardSaid : Prop := Claim7.holds Tryd.pinned (.plain (OpenSpec.ofChange manifestNamesSpec)) manifestNamesCard

/-- THE SECOND FORM's CARD OF 'kindredlaw8.ManifestBack'. -/
def manifestBackUptoCard : Claim7 := { stood := { row := manifestBackUptoRow, standIns := [], harness := (true, "6d13d61a0323edaae1a027ea5df7dd52d8e5d0cf0d2b7f4184a785188a148e64"), looks := true }, kinds := [], alts := [], laidByText := true, laidKinds := [.called], laidTests := true, laidLooks := .later }
def ManifestBackUptoCardSaid : Prop := Claim7.holds Tryd.pinned (.plain (OpenSpec.upto manifestBackSpec)) manifestBackUptoCard

/-- THE SECOND FORM's CARD OF 'kindredlaw8.ManifestCheck'. -/
def manifestCheckUptoCard : Claim7 := { stood := { row := manifestCheckUptoRow, standIns := [], harness := (true, "6d13d61a0323edaae1a027ea5df7dd52d8e5d0cf0d2b7f4184a785188a148e64"), looks := true }, kinds := [], alts := [], laidByText := true, laidKinds := [.called], laidTests := true, laidLooks := .later }
def ManifestCheckUptoCardSaid : Prop := Claim7.holds Tryd.pinned (.plain (OpenSpec.upto manifestCheckSpec)) manifestCheckUptoCard

/-- THE SECOND FORM's CARD OF 'kindredlaw8.ManifestDecode'. -/
def manifestDecodeUptoCard : Claim7 := { stood := { row := manifestDecodeUptoRow, standIns := [], harness := (true, "6d13d61a0323edaae1a027ea5df7dd52d8e5d0cf0d2b7f4184a785188a148e64"), looks := true }, kinds := [], alts := [], laidByText := true, laidKinds := [.called], laidTests := true, laidLooks := .later }
def ManifestDecodeUptoCardSaid : Prop := Claim7.holds Tryd.pinned (.plain (OpenSpec.upto manifestDecodeSpec)) manifestDecodeUptoCard

/-- THE SECOND FORM's CARD OF 'kindredlaw8.ManifestOurs'. -/
def manifestOursUptoCard : Claim7 := { stood := { row := manifestOursUptoRow, standIns := [], harness := (true, "6d13d61a0323edaae1a027ea5df7dd52d8e5d0cf0d2b7f4184a785188a148e64"), looks := true }, kinds := [], alts := [], laidByText := true, laidKinds := [.data, .data, .data, .sentinel, .sentinel], laidTests := true, laidLooks := .later }
def ManifestOursUptoCardSaid : Prop := Claim7.holds Tryd.pinned (.plain (OpenSpec.upto manifestOursSpec)) manifestOursUptoCard

/-- THE SECOND FORM's CARD OF 'kindredlaw8.ManifestKind'. -/
def manifestKindUptoCard : Claim7 := { stood := { row := manifestKindUptoRow, standIns := [], harness := (true, "6d13d61a0323edaae1a027ea5df7dd52d8e5d0cf0d2b7f4184a785188a148e64"), looks := true }, kinds := [], alts := [], laidByText := true, laidKinds := [.data, .data, .data, .sentinel, .sentinel], laidTests := true, laidLooks := .later }
def ManifestKindUptoCardSaid : Prop := Claim7.holds Tryd.pinned (.plain (OpenSpec.upto manifestKindSpec)) manifestKindUptoCard

/-- THE SECOND FORM's CARD OF 'kindredlaw8.ManifestNames'. -/
def manifestNamesUptoCard : Claim7 := { stood := { row := manifestNamesUptoRow, standIns := [], harness := (true, "6d13d61a0323edaae1a027ea5df7dd52d8e5d0cf0d2b7f4184a785188a148e64"), looks := true }, kinds := [], alts := [], laidByText := true, laidKinds := [.data, .data, .data, .sentinel, .sentinel], laidTests := true, laidLooks := .later }
def ManifestNamesUptoCardSaid : Prop := Claim7.holds Tryd.pinned (.plain (OpenSpec.upto manifestNamesSpec)) manifestNamesUptoCard
end Rows
end Go.Proofs.YtibjneoiombbfaaDoor
