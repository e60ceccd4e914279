/-
  DERIVED. Small facts on worlds, values and rows that every walk of this seat wants.
-/
import Derived.Test.YtmdmjjobhkpojaaDoorRows
import Derived.Test.YtmdmjjobhkpojaaDoorMathB
import Derived.WalkKit
import Derived.WalkSpells
import Derived.WalkLawsBesides
import Derived.Deep.QuietTactic
import Derived.BigQuiet
import Derived.Laws.BitsAllLaws
import Derived.Laws.IdiomStrings
import Derived.Lib.ConvBytes
import Derived.Deep.RegionLaw
import Derived.Test.YtmdmjjobhkpojaaDoorSBase
namespace Go.Proofs.YtmdmjjobhkpojaaDoor
open Go.RowKit Go.Proofs.BitMath
end Go.Proofs.YtmdmjjobhkpojaaDoor
