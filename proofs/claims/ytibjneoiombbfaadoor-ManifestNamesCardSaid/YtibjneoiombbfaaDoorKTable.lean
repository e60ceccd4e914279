/-
  DERIVED. The library's variables that the rows list, as the program's text lays them.
-/
import Derived.Test.YtibjneoiombbfaaDoorKDec
import Derived.Test.YtibjneoiombbfaaDoorCards
import Derived.Test.YtibjneoiombbfaaDoorTie
import Derived.ProofKit
import Derived.LaidMore
import Derived.SizedLaws
import Derived.OpenShut
import Derived.Lib.LaidTab
import Derived.Lib.SmallJoins
import Derived.Stop.Joined
import Derived.Stop.LaidErr
import Derived.SevenTiedAt
namespace Go.Proofs.YtibjneoiombbfaaDoor
open Go.ChangeShapes Go.WideShapes Go.ChangeAt Go.WideMaps Go.WideElems Go.RowKit
theorem own : ownKnob Tryd.prog.godebug = none := by kernel_rfl
theorem tPow : (Tryd.prog.globals[1]?).map (·.type) = some 143 := by kernel_rfl
theorem cu64 : Tryd.prog.cellsOf 67 = 1 := by kernel_rfl
theorem cPow : Tryd.prog.cellsOf 143 = 20 := by kernel_rfl
theorem tSy : (Tryd.prog.globals[2]?).map (·.type) = some 63 := by kernel_rfl
theorem tRg : (Tryd.prog.globals[3]?).map (·.type) = some 63 := by kernel_rfl
theorem cES : Tryd.prog.cellsOf 165 = 1 := by kernel_rfl
theorem cS9 : Tryd.prog.cellsOf 9 = 1 := by kernel_rfl
theorem star : "*" ++ "errors.errorString" = "*errors.errorString" := by decide
theorem rowES (u : TypeId) (h : Tryd.prog.typeName? 3 u = some "*errors.errorString") : u = 163 :=
  typeName_ptr_named (nm := "errors.errorString") (by rw [star]; kernel_rfl) (by kernel_rfl) (by decide) u (by rw [star]; exact h)
/-- What the rows list. -/
abbrev lst : List (String × DataW Unit) := [("math/bits.deBruijn32tab", Rows.laid_math_bits_deBruijn32tab), ("math/bits.deBruijn64tab", Rows.laid_math_bits_deBruijn64tab), ("internal/strconv.uint64pow10", Rows.laid_internal_strconv_uint64pow10), ("strconv.ErrRange", Rows.laid_strconv_ErrRange), ("strconv.ErrSyntax", Rows.laid_strconv_ErrSyntax)]
theorem door_met (os : Os) (args : Array Value) : laidMetH Tryd.prog lst ((World.doorLaid Tryd.prog 4000 os).forCall (fun _ _ => 0) ⟨#[], args, []⟩).memory :=
  laidMetH_of_parts3 (fuel := 8) (laidMet_of_run' 8 (by kernel_rfl) (by kernel_rfl)) (by kernel_rfl) (by kernel_rfl)
theorem met_tail {P : Program} {x : String × DataW Unit} {l : List (String × DataW Unit)} {w : World} (h : laidMet P (x :: l) w) : laidMet P l w := by
  obtain ⟨ps, ⟨g, t, cs, fuel, p, q, h1, h2, h3, h4, h5, rfl⟩, hnd, hm⟩ := h
  exact ⟨q, h5, (List.nodup_append.1 hnd).2.1, fun b off hb => hm b off (List.mem_append_right _ hb)⟩
/-- The variables, out of the condition. -/
theorem vs_of {W : World} (h : laidMetH Tryd.prog lst W) : Vs W := by
  rw [MakeChecks.laidMetH_plain _ _ _ (by kernel_rfl)] at h
  refine ⟨Lib.tabIs_of_head (k := .u64) (zs := Lib.pow10Tab) gPow tPow Tryd.underlying143 Tryd.underlying67 cu64 cPow (met_tail (met_tail h)), ?_, ?_⟩
  · obtain ⟨a0, s0, hv0, -, -, -⟩ := laid_sentinel (met_tail (met_tail (met_tail (met_tail h)))) gSy tSy Tryd.underlying63 rowES Tryd.underlying163 Tryd.underlying165 rfl rfl Tryd.underlying9 cES cS9
    exact ⟨_, _, hv0⟩
  · obtain ⟨a0, s0, hv0, -, -, -⟩ := laid_sentinel (met_tail (met_tail (met_tail h))) gRg tRg Tryd.underlying63 rowES Tryd.underlying163 Tryd.underlying165 rfl rfl Tryd.underlying9 cES cS9
    exact ⟨_, _, hv0⟩
end Go.Proofs.YtibjneoiombbfaaDoor
