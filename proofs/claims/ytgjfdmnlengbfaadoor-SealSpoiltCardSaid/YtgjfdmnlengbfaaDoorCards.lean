/-
  DERIVED. GIVEN WITH THE SEED: THE CARDS: each row of YtgjfdmnlengbfaaDoorRows.lean that lists a variable, with what it lists TIED to the program's text (the seventh form; the later family's looks); each row that meets fmt, with fmt's text TOLD by the authors' own Lean function (tested against real Go, not proved from fmt's source: count such statements apart). THE CARD IS WHAT COUNTS. Prove the row's statement (the work); the ties are given (YtgjfdmnlengbfaaDoorTie.lean); close each card by the builder's one call (the guide's Derived/Test/ToyasCard.lean, 'card_holds'). Laid BY PROGRAM, IN A SANDBOX (cutbox-door.mjs). By AI agents, Wed Nov 11 2026. No macro, syntax, notation, axiom, sorry.
-/
import Derived.Test.YtgjfdmnlengbfaaDoorRows
import GoSem.ClaimSeven
namespace Go.Proofs.YtgjfdmnlengbfaaDoor
namespace Rows

/-- THE TIED CARD OF 'kindredlaw3.SealSums'. -/
def sealSumsCard : Claim7 := { stood := { row := sealSumsRow, standIns := [], harness := (true, "ea513c02aa23055158dc2293f32b19a5c19ae77ebbb1ad7587594cb6e61cbd22"), looks := false }, kinds := [], alts := [], laidByText := true, laidKinds := [.called], laidTests := true, laidLooks := .later }
def SealSumsCardSaid : Prop := Claim7.holds Tryd.pinned (.plain (OpenSpec.ofChange sealSumsSpec)) sealSumsCard

/-- THE TIED CARD OF 'kindredlaw3.SealJoins'. -/
def sealJoinsCard : Claim7 := { stood := { row := sealJoinsRow, standIns := [], harness := (true, "ea513c02aa23055158dc2293f32b19a5c19ae77ebbb1ad7587594cb6e61cbd22"), looks := false }, kinds := [], alts := [], laidByText := true, laidKinds := [.called], laidTests := true, laidLooks := .later }
def SealJoinsCardSaid : Prop := Claim7.holds Tryd.pinned (.plain (OpenSpec.ofChange sealJoinsSpec)) sealJoinsCard

/-- THE TIED CARD OF 'kindredlaw3.SealOnly'. -/
def sealOnlyCard : Claim7 := { stood := { row := sealOnlyRow, standIns := [], harness := (true, "ea513c02aa23055158dc2293f32b19a5c19ae77ebbb1ad7587594cb6e61cbd22"), looks := false }, kinds := [], alts := [], laidByText := true, laidKinds := [.called], laidTests := true, laidLooks := .later }
def SealOnlyCardSaid : Prop := Claim7.holds Tryd.pinned (.plain (OpenSpec.ofChange sealOnlySpec)) sealOnlyCard

/-- THE TIED CARD OF 'kindredlaw3.SealSpoilt'. -/
def sealSpoiltCard : Claim7 := { stood := { row := sealSpoiltRow, standIns := [], harness := (true, "ea513c02aa23055158dc2293f32b19a5c19ae77ebbb1ad7587594cb6e61cbd22"), looks := false }, kinds := [], alts := [], laidByText := true, laidKinds := [.called], laidTests := true, laidLooks := .later }
def SealSpoiltCardSaid : Prop := Claim7.holds Tryd.pinned (.plain (OpenSpec.ofChange sealSpoiltSpec)) sealSpoiltCard

/-- THE SECOND FORM's CARD OF 'kindredlaw3.SealSums'. -/
def sealSumsUptoCard : Claim7 := { stood := { row := sealSumsUptoRow, standIns := [], harness := (true, "ea513c02aa23055158dc2293f32b19a5c19ae77ebbb1ad7587594cb6e61cbd22"), looks := false }, kinds := [], alts := [], laidByText := true, laidKinds := [.called], laidTests := true, laidLooks := .later }
def SealSumsUptoCardSaid : Prop := Claim7.holds Tryd.pinned (.plain (OpenSpec.upto sealSumsSpec)) sealSumsUptoCard

/-- THE SECOND FORM's CARD OF 'kindredlaw3.SealJoins'. -/
def sealJoinsUptoCard : Claim7 := { stood := { row := sealJoinsUptoRow, standIns := [], harness := (true, "ea513c02aa23055158dc2293f32b19a5c19ae77ebbb1ad7587594cb6e61cbd22"), looks := false }, kinds := [], alts := [], laidByText := true, laidKinds := [.called], laidTests := true, laidLooks := .later }
def SealJoinsUptoCardSaid : Prop := Claim7.holds Tryd.pinned (.plain (OpenSpec.upto sealJoinsSpec)) sealJoinsUptoCard

/-- THE SECOND FORM's CARD OF 'kindredlaw3.SealOnly'. -/
def sealOnlyUptoCard : Claim7 := { stood := { row := sealOnlyUptoRow, standIns := [], harness := (true, "ea513c02aa23055158dc2293f32b19a5c19ae77ebbb1ad7587594cb6e61cbd22"), looks := false }, kinds := [], alts := [], laidByText := true, laidKinds := [.called], laidTests := true, laidLooks := .later }
def SealOnlyUptoCardSaid : Prop := Claim7.holds Tryd.pinned (.plain (OpenSpec.upto sealOnlySpec)) sealOnlyUptoCard

/-- THE SECOND FORM's CARD OF 'kindredlaw3.SealSpoilt'. -/
def sealSpoiltUptoCard : Claim7 := { stood := { row := sealSpoiltUptoRow, standIns := [], harness := (true, "ea513c02aa23055158dc2293f32b19a5c19ae77ebbb1ad7587594cb6e61cbd22"), looks := false }, kinds := [], alts := [], laidByText := true, laidKinds := [.called], laidTests := true, laidLooks := .later }
def SealSpoiltUptoCardSaid : Prop := Claim7.holds Tryd.pinned (.plain (OpenSpec.upto sealSpoiltSpec)) sealSpoiltUptoCard
end Rows
end Go.Proofs.YtgjfdmnlengbfaaDoor
