/-
  DERIVED. Bytes in the cells of a block.
-/
import Derived.Test.YtchikfabfhjkgaaSBase
import Derived.Deep.MidRow
import Derived.Deep.WholeRow
namespace Go.Proofs.Ytchikfabfhjkgaa
open Go.RowKit
/-- The first n cells of block g hold these bytes, and may be written. -/
def BA (W : World) (g n : Nat) (f : Nat → Nat) : Prop := ∀ k, k < n → W.cell? ⟨g, k, none⟩ = some (.int .u8 (f k)) ∧ W.frozen? ⟨g, k, none⟩ = false
theorem BA.ext {W : World} {g n : Nat} {f f' : Nat → Nat} (h : BA W g n f) (e : ∀ k, k < n → f k = f' k) : BA W g n f' := fun k hk => by rw [← e k hk]; exact h k hk
theorem BA.set {W : World} {g n : Nat} {f : Nat → Nat} (h : BA W g n f) (j : Nat) (x : Nat) : BA (W.setCell ⟨g, j, none⟩ (.int .u8 x)) g n (fun k => if k = j then x else f k) := fun k hk => by
  obtain ⟨h1, h2⟩ := h k hk
  refine ⟨?_, by rw [World.frozen?_setCell]; exact h2⟩
  by_cases e : k = j
  · subst e; rw [World.cell?_setCell_same _ _ _ h1]; simp
  · rw [World.cell?_setCell_other _ _ _ _ (fun he => e (by cases he; rfl)), h1]; simp [e]
theorem BA.new (W : World) (t : TypeId) (n : Nat) (l : List Value) (hl : l = List.replicate n (.int .u8 0)) : BA (W.alloc (.cells l.toArray t)) W.heap.size n (fun _ => 0) := fun k hk => by
  subst hl
  have hh := heap_alloc_last W (.cells (List.replicate n (Value.int .u8 0)).toArray t)
  refine ⟨?_, frozen_of_row _ _ _ _ _ hh⟩
  rw [cell_of_row _ _ k _ t (0, 0) hh]
  simp [hk]
/-- What the bytes are as a text. -/
theorem BA.conv {W : World} {g n : Nat} {f : Nat → Nat} (h : BA W g n f) (l : List UInt8) (cap : Nat) (hl : l.length ≤ n) (e : ∀ k (hk : k < l.length), (l[k]).toNat = f k) :
    (convert 127 9 (.slice (some ⟨g, 0, none⟩) l.length cap)).run Try.prog W = .ok (.string ⟨l.toArray⟩) W :=
  run_convert_bytes_back W 127 9 5 ⟨g, 0, none⟩ cap l Try.underlying127 Try.underlying5 Try.underlying9 (fun j hj => by
    have := (h j (by omega)).1
    have ea : (⟨g, 0, none⟩ : Addr).add j = ⟨g, j, none⟩ := by unfold Addr.add; split <;> simp_all
    rw [ea, this, ← e j hj])
end Go.Proofs.Ytchikfabfhjkgaa
