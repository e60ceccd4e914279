/-
  DERIVED. Bytes in the cells of a block.
-/
import Derived.Test.YtecodnilbojodaaSBase
import Derived.Deep.MidRow
import Derived.Deep.WholeRow
namespace Go.Proofs.Ytecodnilbojodaa
open Go.RowKit
/-- The first n cells of block g hold these bytes, and may be written. -/
def BA (W : World) (g n : Nat) (f : Nat → Nat) : Prop := ∀ k, k < n → W.cell? ⟨g, k, none⟩ = some (.int .u8 (f k)) ∧ W.frozen? ⟨g, k, none⟩ = false
theorem BA.ext {W : World} {g n : Nat} {f f' : Nat → Nat} (h : BA W g n f) (e : ∀ k, k < n → f k = f' k) : BA W g n f' := fun k hk => by rw [← e k hk]; exact h k hk
theorem BA.set {W : World} {g n : Nat} {f : Nat → Nat} (h : BA W g n f) (j : Nat) (x : Nat) : BA (W.setCell ⟨g, j, none⟩ (.int .u8 x)) g n (fun k => if k = j then x else f k) := fun k hk => by
  obtain ⟨h1, h2⟩ := h k hk
  refine ⟨?_, by rw [World.frozen?_setCell]; exact h2⟩
  by_cases e : k = j
  · subst e; rw [World.cell?_setCell_same _ _ _ h1]; simp
  · rw [World.cell?_setCell_other _ _ _ _ (fun he => e (by cases he; rfl)), h1]; simp [e]
theorem BA.new (W : World) (t : TypeId) (n : Nat) (l : List Value) (hl : l = List.replicate n (.int .u8 0)) : BA (W.alloc (.cells l.toArray t)) W.heap.size n (fun _ => 0) := fun k hk => by
  subst hl
  have hh := heap_alloc_last W (.cells (List.replicate n (Value.int .u8 0)).toArray t)
  refine ⟨?_, frozen_of_row _ _ _ _ _ hh⟩
  rw [cell_of_row _ _ k _ t (0, 0) hh]
  simp [hk]
end Go.Proofs.Ytecodnilbojodaa
