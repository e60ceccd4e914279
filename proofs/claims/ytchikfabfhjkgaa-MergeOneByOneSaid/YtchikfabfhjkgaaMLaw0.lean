/-
  DERIVED. The law's own at and less.
-/
import Derived.Test.YtchikfabfhjkgaaMPure4
set_option linter.unusedVariables false
set_option linter.unusedSimpArgs false
namespace Go.Proofs.Ytchikfabfhjkgaa
open Go.RowKit
set_option maxHeartbeats 1000000 in
set_option maxRecDepth 100000 in
theorem at_any (a b : En) (w : World) :
    Calls Try.prog 44 #[.agg (enC a).toArray, .agg (enC b).toArray] w fun r w' => r = .returned (.bool (decide (cpE a b = 0))) ∧ Below w.heap.size w w' := by
  obtain ⟨v, c, i, s, d⟩ := a
  obtain ⟨v', c', i', s', d'⟩ := b
  have bA : Below w.heap.size w ((w.alloc (.cells #[.int .i64 v, .string c, .int .i64 i, .int .i64 s, .bool d] 23)).alloc (.cells #[.int .i64 v', .string c', .int .i64 i', .int .i64 s', .bool d'] 23)) := ((Below.refl _ w).alloc (Nat.le_refl _) _).alloc (by simp) _
  unfold cpE
  simp only [enC]
  by_cases h1 : v = v'
  · rw [if_pos h1]
    have h1' : (v == v') = true := by simp [h1]
    by_cases h2 : Lib.compareBytes c.data.toList c'.data.toList = 0
    · rw [if_pos h2]
      have h2' := eq_z h2
      have h3 : decide (Lib.compareInt i i' = 0) = (i == i') := by
        rw [Bool.eq_iff_iff, decide_eq_true_eq, beq_iff_eq]; exact (cmpI i i').2.1
      rw [h3]
      clear h2 h1 h3
      go_enter Try.func44, Try.ntmps44
      go_wp2
      go_ret
      exact ⟨rfl, bA⟩
    · rw [if_neg h2]
      have h2' := eq_n h2
      rw [decide_eq_false h2]
      clear h2 h1
      go_enter Try.func44, Try.ntmps44
      go_wp2
      go_ret
      exact ⟨rfl, bA⟩
  · rw [if_neg h1]
    have h1' : (v == v') = false := by simpa using h1
    rw [decide_eq_false (fun e => h1 ((cmpI v v').2.1.1 e))]
    clear h1
    go_enter Try.func44, Try.ntmps44
    go_wp2
    go_ret
    exact ⟨rfl, bA⟩
set_option maxHeartbeats 1000000 in
set_option maxRecDepth 100000 in
theorem lessE_any (a b : En) (w : World) :
    Calls Try.prog 27 #[.agg (enC a).toArray, .agg (enC b).toArray] w fun r w' => r = .returned (.bool (decide (cpE a b < 0))) ∧ Below w.heap.size w w' := by
  obtain ⟨v, c, i, s, d⟩ := a
  obtain ⟨v', c', i', s', d'⟩ := b
  have bA : Below w.heap.size w ((w.alloc (.cells #[.int .i64 v, .string c, .int .i64 i, .int .i64 s, .bool d] 23)).alloc (.cells #[.int .i64 v', .string c', .int .i64 i', .int .i64 s', .bool d'] 23)) := ((Below.refl _ w).alloc (Nat.le_refl _) _).alloc (by simp) _
  unfold cpE
  simp only [enC]
  by_cases h1 : v = v'
  · rw [if_pos h1]
    have h1' : (v != v') = false := by simp [h1]
    by_cases h2 : Lib.compareBytes c.data.toList c'.data.toList = 0
    · rw [if_pos h2]
      have h2' := eq_z h2
      have h2'' : (c.toList != c'.toList) = false := by rw [bne, h2']; rfl
      have h3 : decide (Lib.compareInt i i' < 0) = decide (i < i') := decide_eq_decide.2 (cmpI i i').1
      rw [h3]
      clear h2 h1 h3
      go_enter Try.func27, Try.ntmps27
      go_wp2
      go_ret
      exact ⟨rfl, bA⟩
    · rw [if_neg h2]
      have h2' := eq_n h2
      have h2'' : (c.toList != c'.toList) = true := by rw [bne, h2']; rfl
      rcases cmpB_one c.data.toList c'.data.toList with k | k | k
      · have hb := (bl_t k).1
        rw [k]
        clear h2 h1 k
        go_enter Try.func27, Try.ntmps27
        go_wp2
        go_ret
        exact ⟨rfl, bA⟩
      · exact absurd k h2
      · have hb := (bl_g k).1
        rw [k]
        clear h2 h1 k
        go_enter Try.func27, Try.ntmps27
        go_wp2
        go_ret
        exact ⟨rfl, bA⟩
  · rw [if_neg h1]
    have h1' : (v != v') = true := by simpa using h1
    have h3 : decide (Lib.compareInt v v' < 0) = decide (v < v') := decide_eq_decide.2 (cmpI v v').1
    rw [h3]
    clear h1 h3
    go_enter Try.func27, Try.ntmps27
    go_wp2
    go_ret
    exact ⟨rfl, bA⟩
end Go.Proofs.Ytchikfabfhjkgaa
