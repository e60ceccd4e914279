/-
  DERIVED. GIVEN WITH THE SEED: THE CARDS: each row of YtnnbcdfpbdmgdaaDoorRows.lean that lists a variable, with what it lists TIED to the program's text (the seventh form; the later family's looks); each row that meets fmt, with fmt's text TOLD by the authors' own Lean function (tested against real Go, not proved from fmt's source: count such statements apart). THE CARD IS WHAT COUNTS. Prove the row's statement (the work); the ties are given (YtnnbcdfpbdmgdaaDoorTie.lean); close each card by the builder's one call (the guide's Derived/Test/ToyasCard.lean, 'card_holds'). Laid BY PROGRAM, IN A SANDBOX (cutbox-door.mjs). By AI agents, Wed Nov 11 2026. No macro, syntax, notation, axiom, sorry.
-/
import Derived.Test.YtnnbcdfpbdmgdaaDoorRows
import GoSem.ClaimSeven
namespace Go.Proofs.YtnnbcdfpbdmgdaaDoor
namespace Rows

/-- THE TIED CARD OF 'kindredlaw12.TreeChain'. -/
def treeChainCard : Claim7 := { stood := { row := treeChainRow, standIns := [], harness := (true, "1c06a3f4aa6f2fa0d0ea7b839d5cc7a81c25a4d3e6dea185c45f809f390dd72b"), looks := false }, kinds := [], alts := [], laidByText := true, laidKinds := [.data], laidTests := true, laidLooks := .later }
def TreeChainCardSaid : Prop := Claim7.holds Tryd.pinned (.plain (OpenSpec.ofChange treeChainSpec)) treeChainCard

/-- THE TIED CARD OF 'kindredlaw12.TreeWork'. -/
def treeWorkCard : Claim7 := { stood := { row := treeWorkRow, standIns := [], harness := (true, "1c06a3f4aa6f2fa0d0ea7b839d5cc7a81c25a4d3e6dea185c45f809f390dd72b"), looks := false }, kinds := [], alts := [], laidByText := true, laidKinds := [.data], laidTests := true, laidLooks := .later }
def TreeWorkCardSaid : Prop := Claim7.holds Tryd.pinned (.plain (OpenSpec.ofChange treeWorkSpec)) treeWorkCard

/-- THE TIED CARD OF 'kindredlaw12.TreeScan'. -/
def treeScanCard : Claim7 := { stood := { row := treeScanRow, standIns := [], harness := (true, "1c06a3f4aa6f2fa0d0ea7b839d5cc7a81c25a4d3e6dea185c45f809f390dd72b"), looks := false }, kinds := [], alts := [], laidByText := true, laidKinds := [.data], laidTests := true, laidLooks := .later }
def TreeScanCardSaid : Prop := Claim7.holds Tryd.pinned (.plain (OpenSpec.ofChange treeScanSpec)) treeScanCard

/-- THE TIED CARD OF 'kindredlaw12.TreeExact'. -/
def treeExactCard : Claim7 := { stood := { row := treeExactRow, standIns := [], harness := (true, "1c06a3f4aa6f2fa0d0ea7b839d5cc7a81c25a4d3e6dea185c45f809f390dd72b"), looks := false }, kinds := [], alts := [], laidByText := true, laidKinds := [.data], laidTests := true, laidLooks := .later }
def TreeExactCardSaid : Prop := Claim7.holds Tryd.pinned (.plain (OpenSpec.ofChange treeExactSpec)) treeExactCard

/-- THE TIED CARD OF 'kindredlaw12.TreeTwo'. -/
def treeTwoCard : Claim7 := { stood := { row := treeTwoRow, standIns := [], harness := (true, "1c06a3f4aa6f2fa0d0ea7b839d5cc7a81c25a4d3e6dea185c45f809f390dd72b"), looks := false }, kinds := [], alts := [], laidByText := true, laidKinds := [.data], laidTests := true, laidLooks := .later }
def TreeTwoCardSaid : Prop := Claim7.holds Tryd.pinned (.plain (OpenSpec.ofChange treeTwoSpec)) treeTwoCard

/-- THE TIED CARD OF 'kindredlaw12.TreeLists'. -/
def treeListsCard : Claim7 := { stood := { row := treeListsRow, standIns := [], harness := (true, "1c06a3f4aa6f2fa0d0ea7b839d5cc7a81c25a4d3e6dea185c45f809f390dd72b"), looks := false }, kinds := [], alts := [], laidByText := true, laidKinds := [.data], laidTests := true, laidLooks := .later }
def TreeListsCardSaid : Prop := Claim7.holds Tryd.pinned (.plain (OpenSpec.ofChange treeListsSpec)) treeListsCard

/-- THE SECOND FORM's CARD OF 'kindredlaw12.TreeChain'. -/
def treeChainUptoCard : Claim7 := { stood := { row := treeChainUptoRow, standIns := [], harness := (true, "1c06a3f4aa6f2fa0d0ea7b839d5cc7a81c25a4d3e6dea185c45f809f390dd72b"), looks := false }, kinds := [], alts := [], laidByText := true, laidKinds := [.data], laidTests := true, laidLooks := .later }
def TreeChainUptoCardSaid : Prop := Claim7.holds Tryd.pinned (.plain (OpenSpec.upto treeChainSpec)) treeChainUptoCard

/-- THE SECOND FORM's CARD OF 'kindredlaw12.TreeWork'. -/
def treeWorkUptoCard : Claim7 := { stood := { row := treeWorkUptoRow, standIns := [], harness := (true, "1c06a3f4aa6f2fa0d0ea7b839d5cc7a81c25a4d3e6dea185c45f809f390dd72b"), looks := false }, kinds := [], alts := [], laidByText := true, laidKinds := [.data], laidTests := true, laidLooks := .later }
def TreeWorkUptoCardSaid : Prop := Claim7.holds Tryd.pinned (.plain (OpenSpec.upto treeWorkSpec)) treeWorkUptoCard

/-- THE SECOND FORM's CARD OF 'kindredlaw12.TreeScan'. -/
def treeScanUptoCard : Claim7 := { stood := { row := treeScanUptoRow, standIns := [], harness := (true, "1c06a3f4aa6f2fa0d0ea7b839d5cc7a81c25a4d3e6dea185c45f809f390dd72b"), looks := false }, kinds := [], alts := [], laidByText := true, laidKinds := [.data], laidTests := true, laidLooks := .later }
def TreeScanUptoCardSaid : Prop := Claim7.holds Tryd.pinned (.plain (OpenSpec.upto treeScanSpec)) treeScanUptoCard

/-- THE SECOND FORM's CARD OF 'kindredlaw12.TreeExact'. -/
def treeExactUptoCard : Claim7 := { stood := { row := treeExactUptoRow, standIns := [], harness := (true, "1c06a3f4aa6f2fa0d0ea7b839d5cc7a81c25a4d3e6dea185c45f809f390dd72b"), looks := false }, kinds := [], alts := [], laidByText := true, laidKinds := [.data], laidTests := true, laidLooks := .later }
def TreeExactUptoCardSaid : Prop := Claim7.holds Tryd.pinned (.plain (OpenSpec.upto treeExactSpec)) treeExactUptoCard

/-- THE SECOND FORM's CARD OF 'kindredlaw12.TreeTwo'. -/
def treeTwoUptoCard : Claim7 := { stood := { row := treeTwoUptoRow, standIns := [], harness := (true, "1c06a3f4aa6f2fa0d0ea7b839d5cc7a81c25a4d3e6dea185c45f809f390dd72b"), looks := false }, kinds := [], alts := [], laidByText := true, laidKinds := [.data], laidTests := true, laidLooks := .later }
def TreeTwoUptoCardSaid : Prop := Claim7.holds Tryd.pinned (.plain (OpenSpec.upto treeTwoSpec)) treeTwoUptoCard

/-- THE SECOND FORM's CARD OF 'kindredlaw12.TreeLists'. -/
def treeListsUptoCard : Claim7 := { stood := { row := treeListsUptoRow, standIns := [], harness := (true, "1c06a3f4aa6f2fa0d0ea7b839d5cc7a81c25a4d3e6dea185c45f809f390dd72b"), looks := false }, kinds := [], alts := [], laidByText := true, laidKinds := [.data], laidTests := true, laidLooks := .later }
def TreeListsUptoCardSaid : Prop := Claim7.holds Tryd.pinned (.plain (OpenSpec.upto treeListsSpec)) treeListsUptoCard
end Rows
end Go.Proofs.YtnnbcdfpbdmgdaaDoor
