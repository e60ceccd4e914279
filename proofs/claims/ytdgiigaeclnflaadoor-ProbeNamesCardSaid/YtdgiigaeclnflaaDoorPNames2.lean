/-
  DERIVED. Searches that are refused for their source.
-/
import Derived.Test.YtdgiigaeclnflaaDoorPNames1
set_option linter.unusedVariables false
set_option linter.unusedSimpArgs false
namespace Go.Proofs.YtdgiigaeclnflaaDoor
open Go.RowKit Go.Proofs.BitMath
set_option maxHeartbeats 2000000 in
set_option maxRecDepth 100000 in
theorem topk_no (x m : Nat) (h : OkC x m) (codes : Int) (vf af : Value) (hb : codes < 0 ∨ (0 ≤ codes ∧ vf = .nilFunc) ∨ (0 ≤ codes ∧ (∃ f a c, vf = .func f a c) ∧ af = .nilFunc)) (q : ByteArray) (k : Int) (w : World) :
    Calls Tryd.prog 6 #[.agg (srcC x m codes vf af).toArray, .string q, .int .i64 k] w fun e w' => e = .returned (.tuple #[.slice none 0 0, .agg #[.int .i64 0, .int .i64 0, .int .i64 0, .int .i64 0], .int .i64 13]) ∧ Below w.heap.size w w' := by
  have hbn := fun W => begin_no x m h codes vf af hb q W
  simp only [srcC] at hbn ⊢
  obtain ⟨W0, hW0⟩ : ∃ W0, W0 = w.alloc (.cells (srcC x m codes vf af).toArray 25) := ⟨_, rfl⟩
  have bA : Below w.heap.size w W0 := by rw [hW0]; exact (Below.refl _ w).alloc (Nat.le_refl _) _
  have S0 : SAt W0 w.heap.size (srcC x m codes vf af) := by rw [hW0]; exact SAt.new w _ _
  have sz0 : W0.heap.size = w.heap.size + 1 := by rw [hW0]; simp
  have hw' := hW0.symm
  simp only [srcC] at hw'
  obtain ⟨W1, hW1⟩ : ∃ W1, W1 = W0.alloc (.cells #[.int .i64 0, .int .i64 0, .int .i64 0, .int .i64 0] 28) := ⟨_, rfl⟩
  have bB : Below W0.heap.size W0 W1 := by rw [hW1]; exact (Below.refl _ W0).alloc (Nat.le_refl _) _
  have R1 : W1.heap[W0.heap.size]? = some (.cells #[.int .i64 0, .int .i64 0, .int .i64 0, .int .i64 0] 28 (0, 0)) := by rw [hW1]; exact heap_alloc_last W0 _
  have sz1 : W1.heap.size = w.heap.size + 2 := by rw [hW1]; simp [sz0]
  have hw1 := hW1.symm
  have z0 := cell_lat bB (S0 0 _ rfl)
  have z1 := cell_lat bB (S0 1 _ rfl)
  have z2 := cell_lat bB (S0 2 _ rfl)
  have z3 := cell_lat bB (S0 3 _ rfl)
  have z4 := cell_lat bB (S0 4 _ rfl)
  have HE : Hid (∀ w3, Below W1.heap.size W1 w3 → w3.cell? ⟨W0.heap.size, 0, none⟩ = some (.int .i64 0) ∧ w3.cell? ⟨W0.heap.size, 1, none⟩ = some (.int .i64 0) ∧ w3.cell? ⟨W0.heap.size, 2, none⟩ = some (.int .i64 0) ∧ w3.cell? ⟨W0.heap.size, 3, none⟩ = some (.int .i64 0) ∧ (∀ j, w3.frozen? ⟨W0.heap.size, j, none⟩ = false) ∧ ∃ W6, (((w3.setCell ⟨W0.heap.size, 0, none⟩ (.int .i64 0)).setCell ⟨W0.heap.size, 1, none⟩ (.int .i64 0)).setCell ⟨W0.heap.size, 2, none⟩ (.int .i64 0)).setCell ⟨W0.heap.size, 3, none⟩ (.int .i64 0) = W6 ∧ W6.cell? ⟨W0.heap.size, 0, none⟩ = some (.int .i64 0) ∧ W6.cell? ⟨W0.heap.size, 1, none⟩ = some (.int .i64 0) ∧ W6.cell? ⟨W0.heap.size, 2, none⟩ = some (.int .i64 0) ∧ W6.cell? ⟨W0.heap.size, 3, none⟩ = some (.int .i64 0) ∧ Hid (Below w.heap.size w W6)) := fun w3 b3 => by
    have hr5 : w3.heap[W0.heap.size]? = some (.cells #[.int .i64 0, .int .i64 0, .int .i64 0, .int .i64 0] 28 (0, 0)) := (b3.block _ (by omega)).trans R1
    obtain ⟨W6, e6, s6, h6⟩ := put4 hr5 rfl (.int .i64 0) (.int .i64 0) (.int .i64 0) (.int .i64 0)
    refine ⟨?_, ?_, ?_, ?_, fun j => frozen_of_row _ _ _ _ _ hr5, W6, e6, ?_, ?_, ?_, ?_, ?_⟩
    · rw [cell_of_row _ _ 0 _ _ (0, 0) hr5]; rfl
    · rw [cell_of_row _ _ 1 _ _ (0, 0) hr5]; rfl
    · rw [cell_of_row _ _ 2 _ _ (0, 0) hr5]; rfl
    · rw [cell_of_row _ _ 3 _ _ (0, 0) hr5]; rfl
    · rw [cell_of_row _ _ 0 _ _ (0, 0) h6]; rfl
    · rw [cell_of_row _ _ 1 _ _ (0, 0) h6]; rfl
    · rw [cell_of_row _ _ 2 _ _ (0, 0) h6]; rfl
    · rw [cell_of_row _ _ 3 _ _ (0, 0) h6]; rfl
    · exact bA.trans ((bB.mono bA.size).trans ((b3.mono (by omega)).trans (s6.toBelow (B := w.heap.size) (fun j hj e => by omega) (by have := b3.size; omega))))
  clear h hb hW0 S0 bA sz0 hW1 bB R1 sz1
  go_enter Tryd.func6, Tryd.ntmps6
  go_wp2_with (go_at_call 10; refine (hbn _).mono ?_; clear hbn; rintro e w3 ⟨rfl, b3⟩; obtain ⟨r0, r1, r2, r3, rf, W6, hW6, g0, g1, g2, g3, HF⟩ := HE.out _ b3; clear HE b3)
  clear r0 r1 r2 r3 rf hW6
  refine bodyPost_ret (v := .tuple #[.slice none 0 0, .agg #[.int .i64 0, .int .i64 0, .int .i64 0, .int .i64 0], .int .i64 13]) (by simp [results, Tryd.results6, go_sem, g0, g1, g2, g3]; try rfl) rfl ?_
  exact ⟨rfl, HF.out⟩
set_option maxHeartbeats 2000000 in
set_option maxRecDepth 100000 in
theorem radius_no (x m : Nat) (h : OkC x m) (codes : Int) (vf af : Value) (hb : codes < 0 ∨ (0 ≤ codes ∧ vf = .nilFunc) ∨ (0 ≤ codes ∧ (∃ f a c, vf = .func f a c) ∧ af = .nilFunc)) (q : ByteArray) (k : Int) (w : World) :
    Calls Tryd.prog 7 #[.agg (srcC x m codes vf af).toArray, .string q, .int .i64 k] w fun e w' => e = .returned (.tuple #[.slice none 0 0, .agg #[.int .i64 0, .int .i64 0, .int .i64 0, .int .i64 0], .int .i64 13]) ∧ Below w.heap.size w w' := by
  have hbn := fun W => begin_no x m h codes vf af hb q W
  simp only [srcC] at hbn ⊢
  obtain ⟨W0, hW0⟩ : ∃ W0, W0 = w.alloc (.cells (srcC x m codes vf af).toArray 25) := ⟨_, rfl⟩
  have bA : Below w.heap.size w W0 := by rw [hW0]; exact (Below.refl _ w).alloc (Nat.le_refl _) _
  have S0 : SAt W0 w.heap.size (srcC x m codes vf af) := by rw [hW0]; exact SAt.new w _ _
  have sz0 : W0.heap.size = w.heap.size + 1 := by rw [hW0]; simp
  have hw' := hW0.symm
  simp only [srcC] at hw'
  obtain ⟨V0, hV0⟩ : ∃ V0, V0 = W0.alloc (.cells #[.int .i64 k] 3) := ⟨_, rfl⟩
  have bV : Below W0.heap.size W0 V0 := by rw [hV0]; exact (Below.refl _ W0).alloc (Nat.le_refl _) _
  have sz5 : V0.heap.size = w.heap.size + 2 := by rw [hV0]; simp [sz0]
  have hv' := hV0.symm
  replace bA : Below w.heap.size w V0 := bA.trans (bV.mono bA.size)
  replace S0 : SAt V0 w.heap.size (srcC x m codes vf af) := fun j v hv => cell_lat bV (S0 j v hv)
  obtain ⟨W1, hW1⟩ : ∃ W1, W1 = V0.alloc (.cells #[.int .i64 0, .int .i64 0, .int .i64 0, .int .i64 0] 28) := ⟨_, rfl⟩
  have bB : Below V0.heap.size V0 W1 := by rw [hW1]; exact (Below.refl _ V0).alloc (Nat.le_refl _) _
  have R1 : W1.heap[V0.heap.size]? = some (.cells #[.int .i64 0, .int .i64 0, .int .i64 0, .int .i64 0] 28 (0, 0)) := by rw [hW1]; exact heap_alloc_last V0 _
  have sz1 : W1.heap.size = w.heap.size + 3 := by rw [hW1]; simp [sz5]
  have hw1 := hW1.symm
  have z0 := cell_lat bB (S0 0 _ rfl)
  have z1 := cell_lat bB (S0 1 _ rfl)
  have z2 := cell_lat bB (S0 2 _ rfl)
  have z3 := cell_lat bB (S0 3 _ rfl)
  have z4 := cell_lat bB (S0 4 _ rfl)
  have HE : Hid (∀ w3, Below W1.heap.size W1 w3 → w3.cell? ⟨V0.heap.size, 0, none⟩ = some (.int .i64 0) ∧ w3.cell? ⟨V0.heap.size, 1, none⟩ = some (.int .i64 0) ∧ w3.cell? ⟨V0.heap.size, 2, none⟩ = some (.int .i64 0) ∧ w3.cell? ⟨V0.heap.size, 3, none⟩ = some (.int .i64 0) ∧ (∀ j, w3.frozen? ⟨V0.heap.size, j, none⟩ = false) ∧ ∃ W6, (((w3.setCell ⟨V0.heap.size, 0, none⟩ (.int .i64 0)).setCell ⟨V0.heap.size, 1, none⟩ (.int .i64 0)).setCell ⟨V0.heap.size, 2, none⟩ (.int .i64 0)).setCell ⟨V0.heap.size, 3, none⟩ (.int .i64 0) = W6 ∧ W6.cell? ⟨V0.heap.size, 0, none⟩ = some (.int .i64 0) ∧ W6.cell? ⟨V0.heap.size, 1, none⟩ = some (.int .i64 0) ∧ W6.cell? ⟨V0.heap.size, 2, none⟩ = some (.int .i64 0) ∧ W6.cell? ⟨V0.heap.size, 3, none⟩ = some (.int .i64 0) ∧ Hid (Below w.heap.size w W6)) := fun w3 b3 => by
    have hr5 : w3.heap[V0.heap.size]? = some (.cells #[.int .i64 0, .int .i64 0, .int .i64 0, .int .i64 0] 28 (0, 0)) := (b3.block _ (by omega)).trans R1
    obtain ⟨W6, e6, s6, h6⟩ := put4 hr5 rfl (.int .i64 0) (.int .i64 0) (.int .i64 0) (.int .i64 0)
    refine ⟨?_, ?_, ?_, ?_, fun j => frozen_of_row _ _ _ _ _ hr5, W6, e6, ?_, ?_, ?_, ?_, ?_⟩
    · rw [cell_of_row _ _ 0 _ _ (0, 0) hr5]; rfl
    · rw [cell_of_row _ _ 1 _ _ (0, 0) hr5]; rfl
    · rw [cell_of_row _ _ 2 _ _ (0, 0) hr5]; rfl
    · rw [cell_of_row _ _ 3 _ _ (0, 0) hr5]; rfl
    · rw [cell_of_row _ _ 0 _ _ (0, 0) h6]; rfl
    · rw [cell_of_row _ _ 1 _ _ (0, 0) h6]; rfl
    · rw [cell_of_row _ _ 2 _ _ (0, 0) h6]; rfl
    · rw [cell_of_row _ _ 3 _ _ (0, 0) h6]; rfl
    · exact bA.trans ((bB.mono bA.size).trans ((b3.mono (by omega)).trans (s6.toBelow (B := w.heap.size) (fun j hj e => by omega) (by have := b3.size; omega))))
  clear h hb hV0 bV sz5 hW0 S0 bA sz0 hW1 bB R1 sz1
  go_enter Tryd.func7, Tryd.ntmps7
  go_wp2_with (go_at_call 10; refine (hbn _).mono ?_; clear hbn; rintro e w3 ⟨rfl, b3⟩; obtain ⟨r0, r1, r2, r3, rf, W6, hW6, g0, g1, g2, g3, HF⟩ := HE.out _ b3; clear HE b3)
  clear r0 r1 r2 r3 rf hW6
  refine bodyPost_ret (v := .tuple #[.slice none 0 0, .agg #[.int .i64 0, .int .i64 0, .int .i64 0, .int .i64 0], .int .i64 13]) (by simp [results, Tryd.results7, go_sem, g0, g1, g2, g3]; try rfl) rfl ?_
  exact ⟨rfl, HF.out⟩
set_option maxHeartbeats 2000000 in
set_option maxRecDepth 100000 in
theorem few_no (x m : Nat) (h : OkC x m) (codes : Int) (vf af : Value) (hb : codes < 0 ∨ (0 ≤ codes ∧ vf = .nilFunc) ∨ (0 ≤ codes ∧ (∃ f a c, vf = .func f a c) ∧ af = .nilFunc)) (q : ByteArray) (k n : Int) (w : World) :
    Calls Tryd.prog 8 #[.agg (srcC x m codes vf af).toArray, .string q, .int .i64 k, .int .i64 n] w fun e w' => e = .returned (.tuple #[.slice none 0 0, .agg #[.int .i64 0, .int .i64 0, .int .i64 0, .int .i64 0], .int .i64 13]) ∧ Below w.heap.size w w' := by
  have hbn := fun W => begin_no x m h codes vf af hb q W
  simp only [srcC] at hbn ⊢
  obtain ⟨W0, hW0⟩ : ∃ W0, W0 = w.alloc (.cells (srcC x m codes vf af).toArray 25) := ⟨_, rfl⟩
  have bA : Below w.heap.size w W0 := by rw [hW0]; exact (Below.refl _ w).alloc (Nat.le_refl _) _
  have S0 : SAt W0 w.heap.size (srcC x m codes vf af) := by rw [hW0]; exact SAt.new w _ _
  have sz0 : W0.heap.size = w.heap.size + 1 := by rw [hW0]; simp
  have hw' := hW0.symm
  simp only [srcC] at hw'
  obtain ⟨V0, hV0⟩ : ∃ V0, V0 = W0.alloc (.cells #[.int .i64 n] 3) := ⟨_, rfl⟩
  have bV : Below W0.heap.size W0 V0 := by rw [hV0]; exact (Below.refl _ W0).alloc (Nat.le_refl _) _
  have sz5 : V0.heap.size = w.heap.size + 2 := by rw [hV0]; simp [sz0]
  have hv' := hV0.symm
  replace bA : Below w.heap.size w V0 := bA.trans (bV.mono bA.size)
  replace S0 : SAt V0 w.heap.size (srcC x m codes vf af) := fun j v hv => cell_lat bV (S0 j v hv)
  obtain ⟨W1, hW1⟩ : ∃ W1, W1 = V0.alloc (.cells #[.int .i64 0, .int .i64 0, .int .i64 0, .int .i64 0] 28) := ⟨_, rfl⟩
  have bB : Below V0.heap.size V0 W1 := by rw [hW1]; exact (Below.refl _ V0).alloc (Nat.le_refl _) _
  have R1 : W1.heap[V0.heap.size]? = some (.cells #[.int .i64 0, .int .i64 0, .int .i64 0, .int .i64 0] 28 (0, 0)) := by rw [hW1]; exact heap_alloc_last V0 _
  have sz1 : W1.heap.size = w.heap.size + 3 := by rw [hW1]; simp [sz5]
  have hw1 := hW1.symm
  have z0 := cell_lat bB (S0 0 _ rfl)
  have z1 := cell_lat bB (S0 1 _ rfl)
  have z2 := cell_lat bB (S0 2 _ rfl)
  have z3 := cell_lat bB (S0 3 _ rfl)
  have z4 := cell_lat bB (S0 4 _ rfl)
  have HE : Hid (∀ w3, Below W1.heap.size W1 w3 → w3.cell? ⟨V0.heap.size, 0, none⟩ = some (.int .i64 0) ∧ w3.cell? ⟨V0.heap.size, 1, none⟩ = some (.int .i64 0) ∧ w3.cell? ⟨V0.heap.size, 2, none⟩ = some (.int .i64 0) ∧ w3.cell? ⟨V0.heap.size, 3, none⟩ = some (.int .i64 0) ∧ (∀ j, w3.frozen? ⟨V0.heap.size, j, none⟩ = false) ∧ ∃ W6, (((w3.setCell ⟨V0.heap.size, 0, none⟩ (.int .i64 0)).setCell ⟨V0.heap.size, 1, none⟩ (.int .i64 0)).setCell ⟨V0.heap.size, 2, none⟩ (.int .i64 0)).setCell ⟨V0.heap.size, 3, none⟩ (.int .i64 0) = W6 ∧ W6.cell? ⟨V0.heap.size, 0, none⟩ = some (.int .i64 0) ∧ W6.cell? ⟨V0.heap.size, 1, none⟩ = some (.int .i64 0) ∧ W6.cell? ⟨V0.heap.size, 2, none⟩ = some (.int .i64 0) ∧ W6.cell? ⟨V0.heap.size, 3, none⟩ = some (.int .i64 0) ∧ Hid (Below w.heap.size w W6)) := fun w3 b3 => by
    have hr5 : w3.heap[V0.heap.size]? = some (.cells #[.int .i64 0, .int .i64 0, .int .i64 0, .int .i64 0] 28 (0, 0)) := (b3.block _ (by omega)).trans R1
    obtain ⟨W6, e6, s6, h6⟩ := put4 hr5 rfl (.int .i64 0) (.int .i64 0) (.int .i64 0) (.int .i64 0)
    refine ⟨?_, ?_, ?_, ?_, fun j => frozen_of_row _ _ _ _ _ hr5, W6, e6, ?_, ?_, ?_, ?_, ?_⟩
    · rw [cell_of_row _ _ 0 _ _ (0, 0) hr5]; rfl
    · rw [cell_of_row _ _ 1 _ _ (0, 0) hr5]; rfl
    · rw [cell_of_row _ _ 2 _ _ (0, 0) hr5]; rfl
    · rw [cell_of_row _ _ 3 _ _ (0, 0) hr5]; rfl
    · rw [cell_of_row _ _ 0 _ _ (0, 0) h6]; rfl
    · rw [cell_of_row _ _ 1 _ _ (0, 0) h6]; rfl
    · rw [cell_of_row _ _ 2 _ _ (0, 0) h6]; rfl
    · rw [cell_of_row _ _ 3 _ _ (0, 0) h6]; rfl
    · exact bA.trans ((bB.mono bA.size).trans ((b3.mono (by omega)).trans (s6.toBelow (B := w.heap.size) (fun j hj e => by omega) (by have := b3.size; omega))))
  clear h hb hV0 bV sz5 hW0 S0 bA sz0 hW1 bB R1 sz1
  go_enter Tryd.func8, Tryd.ntmps8
  go_wp2_with (go_at_call 10; refine (hbn _).mono ?_; clear hbn; rintro e w3 ⟨rfl, b3⟩; obtain ⟨r0, r1, r2, r3, rf, W6, hW6, g0, g1, g2, g3, HF⟩ := HE.out _ b3; clear HE b3)
  clear r0 r1 r2 r3 rf hW6
  refine bodyPost_ret (v := .tuple #[.slice none 0 0, .agg #[.int .i64 0, .int .i64 0, .int .i64 0, .int .i64 0], .int .i64 13]) (by simp [results, Tryd.results8, go_sem, g0, g1, g2, g3]; try rfl) rfl ?_
  exact ⟨rfl, HF.out⟩
end Go.Proofs.YtdgiigaeclnflaaDoor
