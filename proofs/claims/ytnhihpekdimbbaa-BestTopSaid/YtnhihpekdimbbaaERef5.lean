/-
  DERIVED. The document's own lists of a ball and a top.
-/
import Derived.Test.YtnhihpekdimbbaaERef4
set_option linter.unusedVariables false
set_option linter.unusedSimpArgs false
namespace Go.Proofs.Ytnhihpekdimbbaa
open Go.RowKit
set_option maxRecDepth 100000 in
theorem rblist_any (t : Nat) (r : Int) (X : List Ht) (w : World) (hT : RTp 69 w t r X) (hl : X.length < LIM) : Calls Try.prog 37 #[Pk t] w fun e w' => ∃ v, e = .returned v ∧ Told w w' v X := by
  obtain ⟨v, hv, hr, -⟩ := hT.at'
  obtain ⟨c0, c1, -⟩ := hv.cells
  obtain ⟨a, c, rfl, la⟩ := HRow.lat hr
  have hc := cut_any a c X X.length w.drew (la.below (b_drew w)) hl
  rw [List.take_of_length_le (Nat.le_refl _)] at hc
  obtain ⟨n, hn⟩ : ∃ n, n = X.length := ⟨_, rfl⟩
  rw [← hn] at hc c1
  clear hv hr hT la hl hn
  go_enter Try.func37, Try.ntmps37
  go_wp2
  go_region_held (fun w' => Below w.heap.size w w' ∧ w'.cell? ⟨t, 1, none⟩ = some (.slice a n c))
    ((refine (fun hb => ⟨hb, cell_lat hb c1⟩) ?_; first | exact bb | exact b_drew w))
    ((go_at_call 49; refine hc.mono ?_; clear hc; rintro e w4 ⟨v4, rfl, t4⟩; have bb : Below w.heap.size w w4 := below_d t4.2.2))
  all_goals
    go_wp2
    go_ret
    exact ⟨_, rfl, t4.1, t4.2.1, below_d t4.2.2⟩
set_option maxRecDepth 100000 in
theorem rtlist_any (t k : Nat) (X : List Ht) (w : World) (hT : RTp 73 w t k X) (hl : X.length < LIM) : Calls Try.prog 40 #[Pk t] w fun e w' => ∃ v, e = .returned v ∧ Told w w' v (X.take k) := by
  obtain ⟨v, hv, hr, -⟩ := hT.at'
  obtain ⟨c0, c1, -⟩ := hv.cells
  obtain ⟨a, c, rfl, la⟩ := HRow.lat hr
  have hc := cut_any a c X k w.drew (la.below (b_drew w)) hl
  obtain ⟨n, hn⟩ : ∃ n, n = X.length := ⟨_, rfl⟩
  rw [← hn] at hc c1
  clear hv hr hT la hl hn
  go_enter Try.func40, Try.ntmps40
  go_wp2
  go_region_held (fun w' => Below w.heap.size w w' ∧ w'.cell? ⟨t, 1, none⟩ = some (.slice a n c) ∧ w'.cell? ⟨t, 0, none⟩ = some (.int .i64 k))
    ((refine (fun hb => ⟨hb, cell_lat hb c1, cell_lat hb c0⟩) ?_; first | exact bb | exact b_drew w))
    ((go_at_call 49; refine hc.mono ?_; clear hc; rintro e w4 ⟨v4, rfl, t4⟩; have bb : Below w.heap.size w w4 := below_d t4.2.2))
  all_goals
    go_wp2
    go_ret
    exact ⟨_, rfl, t4.1, t4.2.1, below_d t4.2.2⟩
/-- A mark. -/
def mrk (i : Nat) : Ht := ⟨-20 - (i : Int), -20 - (i : Int), ⟨#[109, 97, 114, 107]⟩⟩
end Go.Proofs.Ytnhihpekdimbbaa
