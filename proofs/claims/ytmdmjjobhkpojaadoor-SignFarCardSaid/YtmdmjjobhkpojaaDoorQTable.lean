/-
  DERIVED. The table of halves that the rows list, as the program's text lays it.
-/
import Derived.Test.YtmdmjjobhkpojaaDoorQOpen
import Derived.Test.YtmdmjjobhkpojaaDoorDist
import Derived.Test.YtmdmjjobhkpojaaDoorCards
import Derived.Test.YtmdmjjobhkpojaaDoorTie
import Derived.ProofKit
import Derived.LaidMore
import Derived.SizedLaws
import Derived.OpenShut
import Derived.Lib.LaidTab
import Derived.Stop.Joined
import Derived.SevenTiedAt
namespace Go.Proofs.YtmdmjjobhkpojaaDoor
open Go.ChangeShapes Go.WideShapes Go.ChangeAt Go.WideMaps Go.WideElems Go.RowKit
theorem own : ownKnob Tryd.prog.godebug = none := by kernel_rfl
theorem gTab : Tryd.prog.globalNamed "kindred/bits.halfOnes" = some 0 := by kernel_rfl
theorem tTab : (Tryd.prog.globals[0]?).map (·.type) = some 56 := by kernel_rfl
theorem c3 : Tryd.prog.cellsOf 3 = 1 := by kernel_rfl
theorem cTab : Tryd.prog.cellsOf 56 = 16 := by kernel_rfl
/-- What the rows list. -/
abbrev lst : List (String × DataW Unit) := [("kindred/bits.halfOnes", Rows.laid_kindred_bits_halfOnes)]
theorem door_met (os : Os) (args : Array Value) : laidMetH Tryd.prog lst ((World.doorLaid Tryd.prog 400 os).forCall (fun _ _ => 0) ⟨#[], args, []⟩).memory :=
  laidMetH_of_parts3 (fuel := 8) (laidMet_of_run' 8 (by kernel_rfl) (by kernel_rfl)) (by kernel_rfl) (by kernel_rfl)
/-- The table, out of the condition. -/
theorem tab_of {W : World} (h : laidMetH Tryd.prog lst W) : Tab W := by
  rw [MakeChecks.laidMetH_plain _ _ _ (by kernel_rfl)] at h
  have hT := Lib.tabIs_of_head (k := .i64) (zs := [0, 1, 1, 2, 1, 2, 2, 3, 1, 2, 2, 3, 2, 3, 3, 4]) (rest := []) gTab tTab Tryd.underlying56 Tryd.underlying3 c3 cTab h
  exact fun i hi => hT.cell gTab i hi
theorem tab_pos {W : World} (h : Tab W) : 0 < W.heap.size := World.block_lt_of_cell? W ⟨0, 0, none⟩ (h 0 (by omega))
end Go.Proofs.YtmdmjjobhkpojaaDoor
