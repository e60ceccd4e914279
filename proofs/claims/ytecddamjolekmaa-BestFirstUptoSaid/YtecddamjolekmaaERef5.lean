/-
  DERIVED. The document's own lists of a ball and a top.
-/
import Derived.Test.YtecddamjolekmaaERef4
set_option linter.unusedVariables false
set_option linter.unusedSimpArgs false
namespace Go.Proofs.Ytecddamjolekmaa
open Go.RowKit
set_option maxRecDepth 100000 in
theorem rtlist_any (t k : Nat) (X : List Ht) (w : World) (hT : RTp 45 w t k X) (hl : X.length < LIM) : Calls Try.prog 13 #[Pk t] w fun e w' => ∃ v, e = .returned v ∧ Told w w' v (X.take k) := by
  obtain ⟨v, hv, hr, -⟩ := hT.at'
  obtain ⟨c0, c1, -⟩ := hv.cells
  obtain ⟨a, c, rfl, la⟩ := HRow.lat hr
  have hc := cut_any a c X k w.drew (la.below (b_drew w)) hl
  obtain ⟨n, hn⟩ : ∃ n, n = X.length := ⟨_, rfl⟩
  rw [← hn] at hc c1
  clear hv hr hT la hl hn
  go_enter Try.func13, Try.ntmps13
  go_wp2
  go_region_held (fun w' => Below w.heap.size w w' ∧ w'.cell? ⟨t, 1, none⟩ = some (.slice a n c) ∧ w'.cell? ⟨t, 0, none⟩ = some (.int .i64 k))
    ((refine (fun hb => ⟨hb, cell_lat hb c1, cell_lat hb c0⟩) ?_; first | exact bb | exact b_drew w))
    ((go_at_call 18; refine hc.mono ?_; clear hc; rintro e w4 ⟨v4, rfl, t4⟩; have bb : Below w.heap.size w w4 := below_d t4.2.2))
  all_goals
    go_wp2
    go_ret
    exact ⟨_, rfl, t4.1, t4.2.1, below_d t4.2.2⟩
/-- A mark. -/
def mrk (i : Nat) : Ht := ⟨-20 - (i : Int), -20 - (i : Int), ⟨#[109, 97, 114, 107]⟩⟩
end Go.Proofs.Ytecddamjolekmaa
