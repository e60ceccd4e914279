/-
  DERIVED. GIVEN WITH THE SEED: THE CARDS: each row of YtajnhpmokhmmeaaDoorRows.lean that lists a variable, with what it lists TIED to the program's text (the seventh form; the later family's looks); each row that meets fmt, with fmt's text TOLD by the authors' own Lean function (tested against real Go, not proved from fmt's source: count such statements apart). THE CARD IS WHAT COUNTS. Prove the row's statement (the work); the ties are given (YtajnhpmokhmmeaaDoorTie.lean); close each card by the builder's one call (the guide's Derived/Test/ToyasCard.lean, 'card_holds'). Laid BY PROGRAM, IN A SANDBOX (cutbox-door.mjs). By AI agents, Wed Nov 11 2026. No macro, syntax, notation, axiom, sorry.
-/
import Derived.Test.YtajnhpmokhmmeaaDoorRows
import GoSem.ClaimSeven
namespace Go.Proofs.YtajnhpmokhmmeaaDoor
namespace Rows

/-- THE TIED CARD OF 'kindredlaw1.BitsMetric'. -/
def bitsMetricCard : Claim7 := { stood := { row := bitsMetricRow, standIns := [], harness := (true, "e7fb342335faa707e2be3290443ebabe01fb627e80f58c80bf544d2789b4f8a9"), looks := false }, kinds := [], alts := [], laidByText := true, laidKinds := [.data], laidTests := true, laidLooks := .later }
def BitsMetricCardSaid : Prop := Claim7.holds Tryd.pinned (.plain (OpenSpec.ofChange bitsMetricSpec)) bitsMetricCard

/-- THE TIED CARD OF 'kindredlaw1.BitsFlips'. -/
def bitsFlipsCard : Claim7 := { stood := { row := bitsFlipsRow, standIns := [], harness := (true, "e7fb342335faa707e2be3290443ebabe01fb627e80f58c80bf544d2789b4f8a9"), looks := false }, kinds := [], alts := [], laidByText := true, laidKinds := [.data], laidTests := true, laidLooks := .later }
def BitsFlipsCardSaid : Prop := Claim7.holds Tryd.pinned (.plain (OpenSpec.ofChange bitsFlipsSpec)) bitsFlipsCard

/-- THE TIED CARD OF 'kindredlaw1.BitsCodes'. -/
def bitsCodesCard : Claim7 := { stood := { row := bitsCodesRow, standIns := [], harness := (true, "e7fb342335faa707e2be3290443ebabe01fb627e80f58c80bf544d2789b4f8a9"), looks := false }, kinds := [], alts := [], laidByText := true, laidKinds := [.data], laidTests := true, laidLooks := .later }
def BitsCodesCardSaid : Prop := Claim7.holds Tryd.pinned (.plain (OpenSpec.ofChange bitsCodesSpec)) bitsCodesCard

/-- THE SECOND FORM's CARD OF 'kindredlaw1.BitsMetric'. -/
def bitsMetricUptoCard : Claim7 := { stood := { row := bitsMetricUptoRow, standIns := [], harness := (true, "e7fb342335faa707e2be3290443ebabe01fb627e80f58c80bf544d2789b4f8a9"), looks := false }, kinds := [], alts := [], laidByText := true, laidKinds := [.data], laidTests := true, laidLooks := .later }
def BitsMetricUptoCardSaid : Prop := Claim7.holds Tryd.pinned (.plain (OpenSpec.upto bitsMetricSpec)) bitsMetricUptoCard

/-- THE SECOND FORM's CARD OF 'kindredlaw1.BitsFlips'. -/
def bitsFlipsUptoCard : Claim7 := { stood := { row := bitsFlipsUptoRow, standIns := [], harness := (true, "e7fb342335faa707e2be3290443ebabe01fb627e80f58c80bf544d2789b4f8a9"), looks := false }, kinds := [], alts := [], laidByText := true, laidKinds := [.data], laidTests := true, laidLooks := .later }
def BitsFlipsUptoCardSaid : Prop := Claim7.holds Tryd.pinned (.plain (OpenSpec.upto bitsFlipsSpec)) bitsFlipsUptoCard

/-- THE SECOND FORM's CARD OF 'kindredlaw1.BitsCodes'. -/
def bitsCodesUptoCard : Claim7 := { stood := { row := bitsCodesUptoRow, standIns := [], harness := (true, "e7fb342335faa707e2be3290443ebabe01fb627e80f58c80bf544d2789b4f8a9"), looks := false }, kinds := [], alts := [], laidByText := true, laidKinds := [.data], laidTests := true, laidLooks := .later }
def BitsCodesUptoCardSaid : Prop := Claim7.holds Tryd.pinned (.plain (OpenSpec.upto bitsCodesSpec)) bitsCodesUptoCard
end Rows
end Go.Proofs.YtajnhpmokhmmeaaDoor
