/-
  DERIVED. The closed facts of EngineNames' row, one by one.
-/
import Derived.Test.YthlhgfmjkalpmaaGreatDoorRows
import Derived.JoinedOf
import Derived.ProofKit
namespace Go.Proofs.YthlhgfmjkalpmaaGreatDoor
set_option maxRecDepth 100000 in
set_option maxHeartbeats 80000000 in
theorem facts17 : joinedFacts Tryz.prog 3 Tryz.f3 Rows.engineNamesSpec Rows.engineNamesRow = true := by
  unfold joinedFacts
  simp only [Bool.and_eq_true]
  repeat' apply And.intro
  all_goals (as_aux_lemma => kernel_rfl)
end Go.Proofs.YthlhgfmjkalpmaaGreatDoor
