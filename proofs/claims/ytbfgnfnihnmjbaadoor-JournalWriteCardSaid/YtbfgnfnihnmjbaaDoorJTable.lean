/-
  DERIVED. The tables that the rows list, as the program's text lays them.
-/
import Derived.Test.YtbfgnfnihnmjbaaDoorJName
import Derived.Test.YtbfgnfnihnmjbaaDoorSOn
import Derived.Test.YtbfgnfnihnmjbaaDoorCards
import Derived.Test.YtbfgnfnihnmjbaaDoorTie
import Derived.ProofKit
import Derived.LaidMore
import Derived.SizedLaws
import Derived.OpenShut
import Derived.Lib.LaidTab
import Derived.Lib.SmallJoins
import Derived.Stop.Joined
import Derived.SevenTiedAt
namespace Go.Proofs.YtbfgnfnihnmjbaaDoor
open Go.ChangeShapes Go.WideShapes Go.ChangeAt Go.WideMaps Go.WideElems Go.RowKit Go.Proofs.SealMath
theorem own : ownKnob Tryd.prog.godebug = none := by kernel_rfl
theorem gTab : Tryd.prog.globalNamed "kindred/seal.table" = some 0 := by kernel_rfl
theorem tTab : (Tryd.prog.globals[0]?).map (·.type) = some 120 := by kernel_rfl
theorem cu32 : Tryd.prog.cellsOf 100 = 1 := by kernel_rfl
theorem cTab : Tryd.prog.cellsOf 120 = 16 := by kernel_rfl
theorem gPow : Tryd.prog.globalNamed "internal/strconv.uint64pow10" = some 1 := by kernel_rfl
theorem tPow : (Tryd.prog.globals[1]?).map (·.type) = some 134 := by kernel_rfl
theorem cu64 : Tryd.prog.cellsOf 62 = 1 := by kernel_rfl
theorem cPow : Tryd.prog.cellsOf 134 = 20 := by kernel_rfl
/-- What the rows list. -/
abbrev lst : List (String × DataW Unit) := [("math/bits.deBruijn32tab", Rows.laid_math_bits_deBruijn32tab), ("math/bits.deBruijn64tab", Rows.laid_math_bits_deBruijn64tab), ("internal/strconv.uint64pow10", Rows.laid_internal_strconv_uint64pow10), ("kindred/seal.table", Rows.laid_kindred_seal_table)]
theorem door_met (os : Os) (args : Array Value) : laidMetH Tryd.prog lst ((World.doorLaid Tryd.prog 4000 os).forCall (fun _ _ => 0) ⟨#[], args, []⟩).memory :=
  laidMetH_of_parts3 (fuel := 8) (laidMet_of_run' 8 (by kernel_rfl) (by kernel_rfl)) (by kernel_rfl) (by kernel_rfl)
def tabZ : List Int := [0, 274646895, 549293790, 820201905, 1098587580, 1361435347, 1640403810, 1905808397, 2197175160, 2460548119, 2722870694, 2987750089, 3280807620, 3553878443, 3811616794, 4084100981]
theorem tabZ_at : ∀ i, i < 16 → tabZ.getD i 0 = ((tabN.getD i 0 : Nat) : Int) := by decide +kernel
theorem met_tail {P : Program} {x : String × DataW Unit} {l : List (String × DataW Unit)} {w : World} (h : laidMet P (x :: l) w) : laidMet P l w := by
  obtain ⟨ps, ⟨g, t, cs, fuel, p, q, h1, h2, h3, h4, h5, rfl⟩, hnd, hm⟩ := h
  exact ⟨q, h5, (List.nodup_append.1 hnd).2.1, fun b off hb => hm b off (List.mem_append_right _ hb)⟩
/-- The tables, out of the condition. -/
theorem tab_of {W : World} (h : laidMetH Tryd.prog lst W) : Tab W := by
  rw [MakeChecks.laidMetH_plain _ _ _ (by kernel_rfl)] at h
  have hT := Lib.tabIs_of_head (k := .u32) (zs := tabZ) (rest := []) gTab tTab Tryd.underlying120 Tryd.underlying100 cu32 cTab (met_tail (met_tail (met_tail h)))
  intro i hi
  rw [← tabZ_at i hi]
  exact hT.cell gTab i hi
theorem pow_of {W : World} (h : laidMetH Tryd.prog lst W) : Pow W := by
  rw [MakeChecks.laidMetH_plain _ _ _ (by kernel_rfl)] at h
  exact Lib.tabIs_of_head (k := .u64) (zs := Lib.pow10Tab) gPow tPow Tryd.underlying134 Tryd.underlying62 cu64 cPow (met_tail (met_tail h))
theorem tab_pos {W : World} (h : Tab W) : 0 < W.heap.size := World.block_lt_of_cell? W ⟨0, 0, none⟩ (h 0 (by omega))
end Go.Proofs.YtbfgnfnihnmjbaaDoor
