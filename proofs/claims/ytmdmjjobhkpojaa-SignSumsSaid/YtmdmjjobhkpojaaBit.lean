/-
  DERIVED. Contracts: place, hasBit, Bit, Flip.
-/
import Derived.Test.YtmdmjjobhkpojaaBase
namespace Go.Proofs.Ytmdmjjobhkpojaa
open Go.RowKit Go.Proofs.BitMath
/-- The mask of bit i, as a number. -/
def mkN (i : Nat) : Nat := 2 ^ (7 - i % 8)
theorem mkN_lt (i : Nat) : mkN i < 256 := mk_lt i
theorem pwI (i : Nat) : (128 : Int) / 2 ^ (i % 8) = (mkN i : Int) := by
  unfold mkN; rw [← pw (i % 8) (by omega)]; simp
set_option maxHeartbeats 400000 in
theorem place_any (i : Nat) (w : World) (hi : i ≤ 9000000000000000) :
    Calls Try.prog 33 #[.int .i64 i] w fun e w' => e = .returned (.tuple #[.int .i64 (i / 8 : Nat), .int .u8 (mkN i)]) ∧ Drew w w' := by
  go_enter Try.func33, Try.ntmps33
  go_wp2
  go_quiet (fail)
  go_wp2
  go_ret2
  exact ⟨ret2 rfl (ival (pwI i)), ⟨_, rfl⟩⟩
end Go.Proofs.Ytmdmjjobhkpojaa
