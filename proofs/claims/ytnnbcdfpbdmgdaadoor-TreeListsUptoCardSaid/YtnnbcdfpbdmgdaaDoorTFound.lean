/-
  DERIVED. A search's box: made.
-/
import Derived.Test.YtnnbcdfpbdmgdaaDoorTDropAll
set_option linter.unusedVariables false
set_option linter.unusedSimpArgs false
namespace Go.Proofs.YtnnbcdfpbdmgdaaDoor
open Go.RowKit Go.Maps Go.Proofs.BitMath Go.Proofs.TreeMath
/-- What a search has found, in memory: codes by their distances, each distance's row the call's own. -/
structure FB {n : Nat} (B : Nat) (w : World) (g cb : Nat) (k : Int) (bound count : Nat) (R : List (List (Cd n))) (vs : List Value) : Prop where
  box : w.heap[g]? = some (.cells #[.int .i64 k, .int .i64 bound, .int .i64 count, .slice (some ⟨cb, 0, none⟩) vs.length vs.length] 94 (0, 0))
  row : w.heap[cb]? = some (.cells vs.toArray 45 (0, 0))
  len : R.length = vs.length
  each : ∀ (j : Nat) (v : Value) (l : List (Cd n)), vs[j]? = some v → R[j]? = some l → w.ownsRow B 9 1 v l.length (l.map sV)
  apart : ∀ (i j q : Nat) (v u : Value), vs[i]? = some v → vs[j]? = some u → v.ownBlock = some q → u.ownBlock = some q → i = j
  cnt : count = (R.map List.length).sum
  low : B ≤ g ∧ B ≤ cb ∧ g ≠ cb
theorem infS : (Tryd.prog.info? 45).map (fun i => (i.zero, i.size, i.bytes)) = some (some (.slice none 0 0), 1, 24) := by kernel_rfl
section
variable {P : Program} (w : World) {ops : Array Oper} {rest : List Oper} {o : Oper} {a : Act} {Q : Exit → Act → World → Prop}
theorem wpList_make_run (hg : o.guard = none) (t : TypeId) (l c : Operand) (hop : o.op = Op.makeSlice t l c) (v : Value) (w' : World) (hrun : (Instr.makeSlice t (a.eval l) (a.eval c)).run P w = .ok v w') (hK : wpList P ops Q rest (a.put o.dst v) w') : wpList P ops Q (o :: rest) a w := by
  refine wpList_plain hg fun K' hK' => ?_
  unfold Oper.wp
  simp [execOp, hop, hrun, Result.andThen]
  exact hK' _ _ hK
end
theorem FB.start {n : Nat} {W : World} (k : Int) (b : Nat) : FB (n := n) W.heap.size ((W.alloc (.cells (Array.replicate (b + 1) (.slice none 0 0)) 45)).alloc (.cells #[.int .i64 k, .int .i64 b, .int .i64 0, .slice (some ⟨W.heap.size, 0, none⟩) (b + 1) (b + 1)] 94)) (W.heap.size + 1) W.heap.size k b 0 (List.replicate (b + 1) []) (List.replicate (b + 1) (.slice none 0 0)) := by
  refine ⟨?_, ?_, by simp, fun j v l h1 h2 => ?_, fun i j q v u h1 h2 h3 h4 => ?_, ?_, by omega, by omega, by omega⟩
  · rw [List.length_replicate, show W.heap.size + 1 = (W.alloc (.cells (Array.replicate (b + 1) (.slice none 0 0)) 45)).heap.size by simp]
    exact Array.getElem?_push_size
  · rw [Below.heap_alloc _ _ _ (by simp)]
    rw [List.toArray_replicate]
    exact Array.getElem?_push_size
  · rw [List.getElem?_replicate] at h1 h2
    split at h1
    · rw [if_pos (by assumption)] at h2
      cases h1
      cases h2
      exact ⟨rfl, .inl ⟨rfl, rfl⟩⟩
    · cases h1
  · rw [List.getElem?_replicate] at h1
    split at h1
    · cases h1
      cases h3
    · cases h1
  · simp
set_option maxHeartbeats 4000000 in
set_option maxRecDepth 100000 in
theorem newFound_any {n : Nat} (k : Int) (b : Nat) (hb : b ≤ 8192) (W : World) :
    Calls Tryd.prog 41 #[.int .i64 k, .int .i64 b] W (fun r w' => ∃ g cb, r = .returned (.pointer (some ⟨g, 0, none⟩)) ∧ FB (n := n) W.heap.size w' g cb k b 0 (List.replicate (b + 1) []) (List.replicate (b + 1) (.slice none 0 0)) ∧ Below W.heap.size W w') := by
  obtain ⟨i0, hi, hz0, hz1, hz2⟩ := info_parts infS
  have hrun := run_make W 92 45 i0 (.slice none 0 0) Tryd.underlying92 hi hz0 .i64 .i64 ((b : Int) + 1) ((b : Int) + 1) (by omega) (by omega) (by rw [hz2]; omega) (by omega)
  rw [hz1, show ((b : Int) + 1).toNat = b + 1 by omega, Nat.mul_one] at hrun
  have hmc : madeCells (Value.slice none 0 0).cells (b + 1) = Array.replicate (b + 1) (.slice none 0 0) := by
    apply Array.ext
    · simp [madeCells]
    · intro i h1 h2
      simp [madeCells, Value.cells, Nat.mod_one]
  rw [hmc] at hrun
  have HR := Hid.mk hrun
  clear hrun hmc
  have hw : IntKind.i64.wrap ((b : Int) + 1) = (b : Int) + 1 := i64_in _ (by omega) (by omega)
  go_enter Tryd.func41, Tryd.ntmps41
  go_wp2_with (first
    | (at_make; refine wpList_make_run _ rfl _ _ _ rfl _ _ HR.out ?_)
    | go_in)
  go_ret
  exact ⟨_, _, rfl, FB.start k b, ((Below.refl _ _).alloc (Nat.le_refl _) _).alloc (by simp) _⟩
end Go.Proofs.YtnnbcdfpbdmgdaaDoor
