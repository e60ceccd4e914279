/-
  DERIVED. Lists of lists of entries.
-/
import Derived.Test.YtbkbnhdeleoibaaMOrder0
set_option linter.unusedVariables false
set_option linter.unusedSimpArgs false
namespace Go.Proofs.Ytbkbnhdeleoibaa
open Go.RowKit
/-- Lists of entries, as a slice of slices that may lie anywhere. -/
structure LL (w : World) (la : Option Addr) (R : List (List En)) : Prop where
  at' : ∀ (i : Nat) (r : List En), R[i]? = some r → ∃ lb lo a c, la = some ⟨lb, lo, none⟩ ∧ w.cell? ⟨lb, lo + i, none⟩ = some (.slice a r.length c) ∧ r.length ≤ c ∧ LAt w a r ∧ r.length < 4611686018427387904
theorem LL.below {w w' : World} {la : Option Addr} {R : List (List En)} (h : LL w la R) (b : Below w.heap.size w w') : LL w' la R := ⟨fun i r hr => by
  obtain ⟨lb, lo, a, c, h1, h2, h3, h4, h5⟩ := h.at' i r hr
  exact ⟨lb, lo, a, c, h1, cell_lat b h2, h3, h4.below b, h5⟩⟩
end Go.Proofs.Ytbkbnhdeleoibaa
