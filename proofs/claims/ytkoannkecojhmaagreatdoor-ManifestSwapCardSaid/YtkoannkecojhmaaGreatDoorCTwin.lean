/-
  DERIVED. The laws' twin and kept.
-/
import Derived.Test.YtkoannkecojhmaaGreatDoorCSame
import Derived.Test.YtkoannkecojhmaaGreatDoorCApp
import Derived.Test.YtkoannkecojhmaaGreatDoorCEnc2
set_option linter.unusedVariables false
set_option linter.unusedSimpArgs false
namespace Go.Proofs.YtkoannkecojhmaaGreatDoor
open Go.RowKit
def r7 : Ru := ⟨-7, 0, 0, 0⟩
/-- A row of runs at a block, with room. -/
def Rw (w : World) (q cp : Nat) (l : List Ru) : Prop := w.ownsRow 0 54 4 (.slice (some ⟨q, 0, none⟩) l.length cp) l.length (l.flatMap ruC)
theorem Rw.row {w : World} {q cp : Nat} {l : List Ru} (h : Rw w q cp l) : RowAt w q 0 (l.flatMap ruC) := fun j x hx => by
  rcases h.2 with ⟨h0, hz⟩ | ⟨g, cap, cur, hv, hbg, hg, hnc, hcm, hcs, htake⟩
  · have : l = [] := List.eq_nil_of_length_eq_zero hz
    rw [this] at hx; simp at hx
  · cases hv
    rw [Nat.zero_add, cell_of_row _ _ j _ _ _ hg]
    have hx2 := hx
    rw [← htake, List.getElem?_take] at hx2
    split at hx2
    · rw [← Array.getElem?_toList]; exact hx2
    · cases hx2
theorem Rw.cap {w : World} {q cp : Nat} {l : List Ru} (h : Rw w q cp l) (hne : l ≠ []) : l.length ≤ cp := by
  rcases h.2 with ⟨h0, hz⟩ | ⟨g, cap, cur, hv, hbg, hg, hnc, r⟩
  · exact absurd (List.eq_nil_of_length_eq_zero hz) hne
  · cases hv; exact hnc
theorem row_cut {w : World} {g off : Nat} {l m : List Ru} (h : RowAt w g off ((l ++ m).flatMap ruC)) : RowAt w g off (l.flatMap ruC) := fun j x hx => h j x (by
  rw [List.flatMap_append, List.getElem?_append_left (by
    rcases Nat.lt_or_ge j (l.flatMap ruC).length with h | h
    · exact h
    · rw [List.getElem?_eq_none h] at hx; cases hx)]
  exact hx)
/-- A manifest is stored into a block, cell by cell. -/
def set7 (W : World) (b : Nat) (y0 y1 y2 y3 y4 y5 y6 : Value) : World :=
  ((((((W.setCell ⟨b, 0, none⟩ y0).setCell ⟨b, 1, none⟩ y1).setCell ⟨b, 2, none⟩ y2).setCell ⟨b, 3, none⟩ y3).setCell ⟨b, 4, none⟩ y4).setCell ⟨b, 5, none⟩ y5).setCell ⟨b, 6, none⟩ y6
theorem set7_heap (W : World) (b : Nat) (x0 x1 x2 x3 x4 x5 x6 y0 y1 y2 y3 y4 y5 y6 : Value) (t : TypeId) (h : W.heap[b]? = some (.cells #[x0, x1, x2, x3, x4, x5, x6] t (0, 0))) :
    (set7 W b y0 y1 y2 y3 y4 y5 y6).heap[b]? = some (.cells #[y0, y1, y2, y3, y4, y5, y6] t (0, 0)) := by
  obtain ⟨W0, e0⟩ : ∃ W', W' = W.setCell ⟨b, 0, none⟩ y0 := ⟨_, rfl⟩
  have h0 : W0.heap[b]? = some (.cells #[y0, x1, x2, x3, x4, x5, x6] t (0, 0)) := by rw [e0, heap_setCell_same W b 0 _ _ y0 h]; rfl
  obtain ⟨W1, e1⟩ : ∃ W', W' = W0.setCell ⟨b, 1, none⟩ y1 := ⟨_, rfl⟩
  have h1 : W1.heap[b]? = some (.cells #[y0, y1, x2, x3, x4, x5, x6] t (0, 0)) := by rw [e1, heap_setCell_same W0 b 1 _ _ y1 h0]; rfl
  obtain ⟨W2, e2⟩ : ∃ W', W' = W1.setCell ⟨b, 2, none⟩ y2 := ⟨_, rfl⟩
  have h2 : W2.heap[b]? = some (.cells #[y0, y1, y2, x3, x4, x5, x6] t (0, 0)) := by rw [e2, heap_setCell_same W1 b 2 _ _ y2 h1]; rfl
  obtain ⟨W3, e3⟩ : ∃ W', W' = W2.setCell ⟨b, 3, none⟩ y3 := ⟨_, rfl⟩
  have h3 : W3.heap[b]? = some (.cells #[y0, y1, y2, y3, x4, x5, x6] t (0, 0)) := by rw [e3, heap_setCell_same W2 b 3 _ _ y3 h2]; rfl
  obtain ⟨W4, e4⟩ : ∃ W', W' = W3.setCell ⟨b, 4, none⟩ y4 := ⟨_, rfl⟩
  have h4 : W4.heap[b]? = some (.cells #[y0, y1, y2, y3, y4, x5, x6] t (0, 0)) := by rw [e4, heap_setCell_same W3 b 4 _ _ y4 h3]; rfl
  obtain ⟨W5, e5⟩ : ∃ W', W' = W4.setCell ⟨b, 5, none⟩ y5 := ⟨_, rfl⟩
  have h5 : W5.heap[b]? = some (.cells #[y0, y1, y2, y3, y4, y5, x6] t (0, 0)) := by rw [e5, heap_setCell_same W4 b 5 _ _ y5 h4]; rfl
  obtain ⟨W6, e6⟩ : ∃ W', W' = W5.setCell ⟨b, 6, none⟩ y6 := ⟨_, rfl⟩
  have h6 : W6.heap[b]? = some (.cells #[y0, y1, y2, y3, y4, y5, y6] t (0, 0)) := by rw [e6, heap_setCell_same W5 b 6 _ _ y6 h5]; rfl
  unfold set7
  rw [← e0, ← e1, ← e2, ← e3, ← e4, ← e5, ← e6]
  exact h6
theorem set7_stay (W : World) (b : Nat) (y0 y1 y2 y3 y4 y5 y6 : Value) : Stay (fun k => k = b) W (set7 W b y0 y1 y2 y3 y4 y5 y6) :=
  ((((((((Stay.refl (fun k => k = b) W).setCell (fun _ => rfl) _).setCell (fun _ => rfl) _).setCell (fun _ => rfl) _).setCell (fun _ => rfl) _).setCell (fun _ => rfl) _).setCell (fun _ => rfl) _).setCell (fun _ => rfl) _)
end Go.Proofs.YtkoannkecojhmaaGreatDoor
