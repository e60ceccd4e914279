/-
  DERIVED. The closed law of chapter 14.
-/
import Derived.Test.YtnmhpbgiljchkaaGreatDoorRTabW
set_option linter.unusedVariables false
set_option linter.unusedSimpArgs false
namespace Go.Proofs.YtnmhpbgiljchkaaGreatDoor
open Go.RowKit Go.Proofs.BitMath
theorem run_makeMap {P : Program} (w : World) (t : TypeId) : (Instr.makeMap t none).run P w = .ok (.map (some w.heap.size)) (w.alloc (.map #[] 0)) := by
  simp [Instr.makeMap, go_sem, Result.andThen]
set_option maxHeartbeats 1000000 in
set_option maxRecDepth 100000 in
theorem new_thousand (w : World) : Calls Tryz.prog 6 #[.int .i64 1000] w fun e w' => ∃ b, e = .returned (.pointer (some ⟨b, 0, none⟩)) ∧ Below w.heap.size w w' := by
  have hmm := @run_makeMap Tryz.prog
  go_enter Tryz.func6, Tryz.ntmps6
  go_wp2
  go_ret
  exact ⟨_, rfl, ((Below.refl _ w).alloc (Nat.le_refl _) _).alloc (by simp) _⟩
set_option maxHeartbeats 1000000 in
set_option maxRecDepth 100000 in
theorem write_none (d : Value) (w : World) (ht : Pow w) : Calls Tryz.prog 5 #[d, .int .i64 0, .agg #[.int .i64 0, .int .i64 0, .int .i64 0], .agg #[.int .i64 0, .int .i64 0, .int .i64 0, .int .i64 0], .slice none 0 0] w fun e w' => e = .returned (.int .i64 13) ∧ Below w.heap.size w w' := by
  have hE : tbE 0 0 0 0 = 13 := by decide
  have hc := fun w h => tables_any 0 0 0 0 w h
  rw [hE] at hc
  go_enter Tryz.func5, Tryz.ntmps5
  go_wp2_with fail
  have hb : Below w.heap.size w (((w.alloc (.cells #[.int .i64 0, .int .i64 0, .int .i64 0] 25)).alloc (.cells #[.int .i64 0, .int .i64 0, .int .i64 0, .int .i64 0] 31)).alloc (.cells #[.slice none 0 0] 41)) := (((Below.refl _ w).alloc (Nat.le_refl _) _).alloc (by simp) _).alloc (by simp; omega) _
  refine (hc _ (ht.lat hb)).mono ?_
  rintro e w1 ⟨v, rfl, -, -, b1⟩
  have hb1 := chain hb b1 (Nat.le_refl _)
  clear hb b1 hc
  go_wp2
  go_ret
  exact ⟨rfl, hb1⟩
theorem nm_three : nmL 3 64 0 2 = [⟨#[114, 51, 46, 48]⟩] := by decide +kernel
set_option maxHeartbeats 1000000 in
theorem num_any (x : Int) (w : World) : Calls Tryz.prog 7 #[.int .i64 x] w fun e w' => e = .returned (.int .i64 x) ∧ w' = w := by
  go_enter Tryz.func7, Tryz.ntmps7
  go_wp2
  go_ret
  exact ⟨rfl, rfl⟩
set_option maxHeartbeats 1000000 in
set_option maxRecDepth 100000 in
theorem law_names (w : World) (ht : Pow w) : Calls Tryz.prog 3 #[] w fun e w' => e = .returned (.bool true) ∧ Below w.heap.size w w' := by
  have hc := names_any 3 64 0 2 w ht
  rw [nm_three] at hc
  go_enter Tryz.func3, Tryz.ntmps3
  go_wp2_with fail
  refine hc.mono ?_
  rintro e w1 ⟨v, rfl, hr, -, b1⟩
  clear hc
  obtain ⟨g, cap, e, y, -⟩ := El.cells okS hr 0 (by simp)
  subst e
  have y0 : w1.cell? ⟨g, 0, none⟩ = some (.string ⟨#[114, 51, 46, 48]⟩) := by have := y 0 _ rfl; simpa using this
  clear y
  go_wp2_with fail
  refine (new_thousand w1).mono ?_
  rintro e w2 ⟨b, rfl, b2⟩
  have b12 := chain b1 b2 (Nat.le_refl _)
  go_wp2_with fail
  refine (write_none _ w2 (ht.lat b12)).mono ?_
  rintro e w3 ⟨rfl, b3⟩
  have y3 := cell_lat (chain b2 b3 (Nat.le_refl _)) y0
  have b13 := chain b12 b3 (Nat.le_refl _)
  go_wp2_with (go_at_call 7; refine (num_any _ _).mono ?_; rintro e w' ⟨rfl, rfl⟩)
  go_ret
  exact ⟨rfl, b13⟩
end Go.Proofs.YtnmhpbgiljchkaaGreatDoor
