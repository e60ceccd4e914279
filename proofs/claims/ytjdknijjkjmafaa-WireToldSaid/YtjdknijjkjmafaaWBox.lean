/-
  DERIVED. Blocks of cells, one by one.
-/
import Derived.Test.YtjdknijjkjmafaaBStay
set_option linter.unusedVariables false
set_option linter.unusedSimpArgs false
namespace Go.Proofs.Ytjdknijjkjmafaa
open Go.RowKit
/-- Block g holds these cells. -/
abbrev HC (w : World) (g : Nat) (C : Array Value) (T : TypeId) : Prop := w.heap[g]? = some (.cells C T (0, 0))
theorem HC.cell {w : World} {g : Nat} {C : Array Value} {T : TypeId} (h : HC w g C T) {o : Nat} {v : Value} (ho : C[o]? = some v) : w.cell? ⟨g, o, none⟩ = some v := by
  simp [World.cell?, h, ho]
theorem HC.free {w : World} {g : Nat} {C : Array Value} {T : TypeId} (h : HC w g C T) (o : Nat) : w.frozen? ⟨g, o, none⟩ = false := by
  simp [World.frozen?, h]
theorem HC.lt {w : World} {g : Nat} {C : Array Value} {T : TypeId} (h : HC w g C T) : g < w.heap.size := (Array.getElem?_eq_some_iff.1 h).1
theorem HC.set {w : World} {g : Nat} {C : Array Value} {T : TypeId} (h : HC w g C T) (o : Nat) (v : Value) : HC (w.setCell ⟨g, o, none⟩ v) g (C.setIfInBounds o v) T := heap_setCell_same w g o C T v h
theorem HC.far {w : World} {g : Nat} {C : Array Value} {T : TypeId} (h : HC w g C T) {p : Addr} (hp : g ≠ p.block) (v : Value) : HC (w.setCell p v) g C T := (heap_setCell_other w p g v hp).trans h
theorem HC.stay {F : Nat → Prop} {w w' : World} {g : Nat} {C : Array Value} {T : TypeId} (h : HC w g C T) (s : Stay F w w') (hg : ¬ F g) : HC w' g C T := (s.block g h.lt hg).trans h
theorem HC.below {w w' : World} {g : Nat} {C : Array Value} {T : TypeId} (h : HC w g C T) (s : Below w.heap.size w w') : HC w' g C T := (s.block g h.lt).trans h
theorem HC.drew {w : World} {g : Nat} {C : Array Value} {T : TypeId} (h : HC w g C T) : HC w.drew g C T := h
theorem HC.drewN {w : World} {g : Nat} {C : Array Value} {T : TypeId} (h : HC w g C T) (n : Nat) : HC (w.drewN n) g C T := h
theorem HC.alloc {w : World} {g : Nat} {C : Array Value} {T : TypeId} (h : HC w g C T) (o : Obj) : HC (w.alloc o) g C T := (Stay.refl (fun _ => False) w).alloc o |>.block g h.lt (fun h => h) |>.trans h
theorem HC.new (w : World) (C : Array Value) (T : TypeId) : HC (w.alloc (.cells C T)) w.heap.size C T := heap_alloc_last w _
theorem HC.ne {w : World} {g k : Nat} {C D : Array Value} {T U : TypeId} (h : HC w g C T) (h' : HC w k D U) (hn : T ≠ U) : g ≠ k := fun e => by
  subst e; rw [HC, h] at h'; simp at h'; exact hn h'.2
/-- A cell of any block that may be written. -/
structure CellAt (w : World) (g o : Nat) (v : Value) : Prop where
  cell : w.cell? ⟨g, o, none⟩ = some v
  free : w.frozen? ⟨g, o, none⟩ = false
theorem Stay.drewN {F : Nat → Prop} {a b : World} (h : Stay F a b) (n : Nat) : Stay F a (b.drewN n) := ⟨h.os, h.tape, h.output, h.size, h.block⟩
theorem set_same {C : Array Value} {o : Nat} {v : Value} (h : C[o]? = some v) : C.setIfInBounds o v = C := by
  apply Array.ext_getElem?
  intro i
  rw [Array.getElem?_setIfInBounds]
  split
  · rename_i e; subst e
    split
    · exact h.symm
    · rename_i h2; rw [Array.getElem?_eq_none (by omega)] at h; cases h
  · rfl
end Go.Proofs.Ytjdknijjkjmafaa
