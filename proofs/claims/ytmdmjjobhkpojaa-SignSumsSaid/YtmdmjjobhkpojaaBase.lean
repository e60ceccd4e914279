/-
  DERIVED. Small facts on worlds, values and rows that every walk of this seat wants.
-/
import Derived.Test.YtmdmjjobhkpojaaRows
import Derived.Test.YtmdmjjobhkpojaaMathB
import Derived.WalkKit
import Derived.WalkSpells
import Derived.WalkLawsBesides
import Derived.Deep.QuietTactic
import Derived.BigQuiet
import Derived.Laws.BitsAllLaws
import Derived.Laws.IdiomStrings
import Derived.Lib.ConvBytes
import Derived.Deep.RegionLaw
import Derived.Test.YtmdmjjobhkpojaaSBase
namespace Go.Proofs.Ytmdmjjobhkpojaa
open Go.RowKit Go.Proofs.BitMath
end Go.Proofs.Ytmdmjjobhkpojaa
