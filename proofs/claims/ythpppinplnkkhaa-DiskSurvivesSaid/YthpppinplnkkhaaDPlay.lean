/-
  DERIVED. The laws' own steps: play.
-/
import Derived.Test.YthpppinplnkkhaaDDone
set_option linter.unusedVariables false
set_option linter.unusedSimpArgs false
set_option linter.unnecessarySimpa false
namespace Go.Proofs.Ythpppinplnkkhaa
open Go.RowKit Go.Maps Go.Proofs.DiskMath
end Go.Proofs.Ythpppinplnkkhaa
