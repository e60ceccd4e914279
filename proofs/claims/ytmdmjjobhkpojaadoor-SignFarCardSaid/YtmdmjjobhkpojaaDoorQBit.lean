/-
  DERIVED. bits: one bit.
-/
import Derived.Test.YtmdmjjobhkpojaaDoorBit
namespace Go.Proofs.YtmdmjjobhkpojaaDoor
open Go.RowKit Go.Proofs.BitMath
end Go.Proofs.YtmdmjjobhkpojaaDoor
