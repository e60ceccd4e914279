/-
  DERIVED. Lists of numbers and of runs that grow.
-/
import Derived.Test.YtkoannkecojhmaaGreatDoorCBase
import Derived.Maps.AppendAt
set_option linter.unusedVariables false
set_option linter.unusedSimpArgs false
namespace Go.Proofs.YtkoannkecojhmaaGreatDoor
open Go.RowKit
def IV (n : Int) : Value := .int .i64 n
theorem info3 : (Tryz.prog.info? 3).map (fun i => (i.zero, i.size, i.bytes)) = some (some (.int .i64 0), 1, 8) := by kernel_rfl
theorem infoRn : (Tryz.prog.info? 54).map (fun i => (i.zero, i.size, i.bytes)) = some (some (.agg #[.int .i64 0, .int .i64 0, .int .i64 0, .int .i64 0]), 4, 32) := by kernel_rfl
theorem oneI (l : List Int) : ∀ u ∈ l.map IV, u.oneCell' = true := fun u hu => by
  obtain ⟨n, _, rfl⟩ := List.mem_map.1 hu; rfl
theorem flat_len4 (l : List Ru) : (l.flatMap ruC).length = l.length * 4 := by
  induction l with
  | nil => rfl
  | cons x l ih => rw [List.flatMap_cons, List.length_append, ih, ruC_len, List.length_cons]; omega
theorem one4 (l : List Ru) : ∀ u ∈ l.flatMap ruC, u.oneCell' = true := fun u hu => by
  obtain ⟨e, _, he⟩ := List.mem_flatMap.1 hu
  simp [ruC] at he
  rcases he with rfl | rfl | rfl | rfl <;> rfl
/-- Runs are put behind a row of one's own. -/
theorem ru_app (W : World) (l m : List Ru) (v : Value) (h : W.ownsRow 0 54 4 v l.length (l.flatMap ruC)) (a : Option Addr) (c : Nat) (hm : m ≠ [] → ∃ g off, a = some ⟨g, off, none⟩ ∧ RowAt W g off (m.flatMap ruC)) (hb : (l.length + m.length) * 32 ≤ 140737488355328) :
    ∃ v' w', (Builtin.append_ #[24, 24] 24 #[v, .slice a m.length c]).run Tryz.prog W = .ok v' w' ∧ w'.ownsRow 0 54 4 v' (l ++ m).length ((l ++ m).flatMap ruC) ∧ Stay (fun k => v.ownBlock = some k) W w' ∧ (∀ k, v'.ownBlock = some k → v.ownBlock = some k ∨ W.heap.size ≤ k) := by
  obtain ⟨i0, hi, hz0, hz1, hz2⟩ := info_parts infoRn
  by_cases h0 : m = []
  · subst h0
    obtain ⟨a0, c0, hv, hc0⟩ := slice_form h
    refine ⟨v, W, ?_, by simpa using h, .refl _ _, fun k hk => .inl hk⟩
    subst hv
    have hf : (Builtin.firstCells 4 0 (.slice a 0 c)).run Tryz.prog W = .ok #[] W := by cases a <;> simp [Builtin.firstCells, loadCells, loadCellsFrom]
    simp [Builtin.append_, run_underlying Tryz.underlying24, sizeOf, typeInfo, hi, hz1, Builtin.lenOf, hf, hc0]
    cases a0 <;> simp [storeCells]
  · obtain ⟨g, off, rfl, hr⟩ := hm h0
    obtain ⟨v', w', hrun, ho, hg, _, hloc⟩ := run_append_own_at (P := Tryz.prog) W 0 24 24 54 i0 _ 4 32 Tryz.underlying24 hi hz0 hz1 hz2 rfl (by decide) v l.length _ h ⟨g, off, none⟩ m.length c (m.flatMap ruC) (flat_len4 m) (fun j u hu => by
      have e1 : (⟨g, off, none⟩ : Addr).add j = ⟨g, off + j, none⟩ := by unfold Addr.add; split <;> simp_all
      rw [e1]; exact hr j u hu) (one4 m) (by unfold maxLen; omega) (by omega) (Nat.zero_le _)
    refine ⟨v', w', hrun, by rw [List.length_append, List.flatMap_append]; exact ho, .grown hg (fun k hk => hk), fun k hk => ?_⟩
    rcases hloc with hl | hl
    · exact .inl (hl ▸ hk)
    · rw [hl] at hk; cases hk; exact .inr (Nat.le_refl _)
theorem row_int {w : World} {B : Nat} {v : Value} {l : List Int} (h : w.ownsRow B 3 1 v l.length (l.map IV)) (hne : l ≠ []) : ∃ g c, v = .slice (some ⟨g, 0, none⟩) l.length c ∧ RowAt w g 0 (l.map IV) := by
  have hl : 0 < l.length := List.length_pos_iff.2 hne
  rcases h.2 with ⟨_, hz⟩ | ⟨g, cap, cur, hv, hbg, hg, hnc, hcm, hcs, htake⟩
  · omega
  · refine ⟨g, cap, hv, fun j x hx => ?_⟩
    rw [Nat.zero_add, cell_of_row _ _ j _ _ _ hg]
    have hx2 := hx
    rw [← htake, List.getElem?_take] at hx2
    split at hx2
    · rw [← Array.getElem?_toList]; exact hx2
    · cases hx2
end Go.Proofs.YtkoannkecojhmaaGreatDoor
