/-
  DERIVED. Contracts: place, hasBit, Bit, Flip.
-/
import Derived.Test.YtmdmjjobhkpojaaDoorBase
namespace Go.Proofs.YtmdmjjobhkpojaaDoor
open Go.RowKit Go.Proofs.BitMath
/-- The mask of bit i, as a number. -/
def mkN (i : Nat) : Nat := 2 ^ (7 - i % 8)
theorem mkN_lt (i : Nat) : mkN i < 256 := mk_lt i
theorem pwI (i : Nat) : (128 : Int) / 2 ^ (i % 8) = (mkN i : Int) := by
  unfold mkN; rw [← pw (i % 8) (by omega)]; simp
end Go.Proofs.YtmdmjjobhkpojaaDoor
