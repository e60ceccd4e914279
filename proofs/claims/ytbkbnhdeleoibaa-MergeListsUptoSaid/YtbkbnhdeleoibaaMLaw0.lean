/-
  DERIVED. The law's own at and less.
-/
import Derived.Test.YtbkbnhdeleoibaaMPure4
set_option linter.unusedVariables false
set_option linter.unusedSimpArgs false
namespace Go.Proofs.Ytbkbnhdeleoibaa
open Go.RowKit
end Go.Proofs.Ytbkbnhdeleoibaa
