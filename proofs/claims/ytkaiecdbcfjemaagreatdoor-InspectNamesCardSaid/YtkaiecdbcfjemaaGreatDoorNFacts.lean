/-
  DERIVED. The closed facts of InspectNames' row, one by one.
-/
import Derived.Test.YtkaiecdbcfjemaaGreatDoorRows
import Derived.JoinedOf
import Derived.ProofKit
namespace Go.Proofs.YtkaiecdbcfjemaaGreatDoor
set_option maxRecDepth 100000 in
set_option maxHeartbeats 80000000 in
theorem facts23 : joinedFacts Tryz.prog 3 Tryz.f3 Rows.inspectNamesSpec Rows.inspectNamesRow = true := by
  unfold joinedFacts
  simp only [Bool.and_eq_true]
  repeat' apply And.intro
  all_goals (as_aux_lemma => kernel_rfl)
end Go.Proofs.YtkaiecdbcfjemaaGreatDoor
