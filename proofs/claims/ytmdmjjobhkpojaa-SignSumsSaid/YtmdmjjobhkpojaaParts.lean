/-
  DERIVED. The iterator chunks: its maker, its contract.
-/
import Derived.Test.YtmdmjjobhkpojaaNumber
import Derived.Test.YtmdmjjobhkpojaaMathC
namespace Go.Proofs.Ytmdmjjobhkpojaa
open Go.RowKit Go.Shelf Go.Proofs.BitMath
attribute [local go_sem] Oper.semAt_some
/-- What chunks hands on for chunk j. -/
def encC (w m : Nat) {p : Nat → Prop} (x : Pos p) : Array Value := #[.int .i64 (x.1 : Nat), .agg #[.int .i64 (frC w m x.1), .int .i64 (btC w m x.1)]]
/-- Every block of cells from n on lies as it lay. -/
def KeepC (n : Nat) (W W' : World) : Prop := ∀ k o, n ≤ k → W.heap[k]? = some o → o.isCells = true → W'.heap[k]? = some o
theorem keepC_t {n : Nat} {A B C : World} (h : KeepC n A B) (k : KeepC n B C) : KeepC n A C := fun i o hi ho hc => k i o hi (h i o hi ho hc) hc
theorem keepC_b {n : Nat} {w : World} (W : World) (l : Nat) (o o' : Obj) (_ : w.heap.size ≤ l) (hl : W.heap[l]? = some o) (ho : o.isCells = false) (_ : o.isWalk = false) : KeepC n W (W.putObj l o') := fun i q _ hq hc => by
  have hne : i ≠ l := fun e => by subst e; rw [hl] at hq; cases hq; rw [ho] at hc; cases hc
  exact (World.putObj_heap_other (by omega)).trans hq
theorem KeepC.cell {n : Nat} {W W' : World} (h : KeepC n W W') {a : Addr} {v : Value} (ha : n ≤ a.block) (hv : W.cell? a = some v) : W'.cell? a = some v := by
  cases ho : W.heap[a.block]? with
  | none => simp [World.cell?, ho] at hv
  | some o =>
    have hc : o.isCells = true := by
      cases o <;> simp [World.cell?, ho] at hv <;> rfl
    exact (World.cell?_of_block ((h a.block o ha ho hc).trans ho.symm)).trans hv
theorem KeepC.refl (n : Nat) (W : World) : KeepC n W W := fun _ _ _ h _ => h
theorem KeepC.grown {n : Nat} {W W' : World} {row : Option Nat} (hg : W.grownBy W' row) (h : ∀ k, row = some k → k < n) : KeepC n W W' := fun i o hi ho _ => by
  rw [hg.block i (Array.getElem?_eq_some_iff.1 ho).1 (fun e => by have := h i e.symm; omega)]; exact ho
theorem KeepC.drew {n : Nat} {W W' : World} (h : Drew W W') : KeepC n W W' := KeepC.grown (grown_drew h) (fun k e => by cases e)
theorem KeepC.alloc (n : Nat) (W : World) (o : Obj) : KeepC n W (W.alloc o) := KeepC.grown (World.grownBy_alloc W o none) (fun k e => by cases e)
end Go.Proofs.Ytmdmjjobhkpojaa
