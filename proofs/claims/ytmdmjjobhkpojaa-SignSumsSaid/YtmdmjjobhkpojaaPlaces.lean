/-
  DERIVED. The iterator places: its maker, its contract.
-/
import Derived.Test.YtmdmjjobhkpojaaBit
import Derived.RangeFuncNested
import Derived.RangeFuncBound
import Derived.RangeFuncCalls
import Derived.RangeFuncLeaves
import Derived.Shelf.Abstract
import Derived.Shelf.RegionOpen
import Derived.OwnWalkIn
import Derived.TacticsInMore
import Derived.LoopNIn
import Derived.LoopIn
namespace Go.Proofs.Ytmdmjjobhkpojaa
open Go.RowKit Go.Shelf Go.Proofs.BitMath
attribute [local go_sem] Oper.semAt_some
/-- A place of a bit, of which p is known. -/
abbrev Pos (p : Nat → Prop) := { j : Nat // p j }
/-- What places hands on for it. -/
def encP {p : Nat → Prop} (x : Pos p) : Array Value := #[.int .i64 (x.1 / 8 : Nat), .int .u8 (mkN x.1)]
/-- The places by themselves. -/
def vals {p : Nat → Prop} (l : List (Pos p)) : List Nat := l.map (·.1)
theorem vals_snoc {p : Nat → Prop} (l : List (Pos p)) (x : Pos p) : vals (l ++ [x]) = vals l ++ [x.1] := by simp [vals]
theorem vals_length {p : Nat → Prop} (l : List (Pos p)) : (vals l).length = l.length := by simp [vals]
/-- One block lies as it lay. -/
def KeepB (b : Nat) (W W' : World) : Prop := W'.heap[b]? = W.heap[b]?
theorem KeepB.cell {b : Nat} {W W' : World} (h : KeepB b W W') (o : Nat) : W'.cell? ⟨b, o, none⟩ = W.cell? ⟨b, o, none⟩ := World.cell?_of_block h
theorem keepB_t {b : Nat} {A B C : World} (h : KeepB b A B) (k : KeepB b B C) : KeepB b A C := Eq.trans k h
theorem keepB_b {b : Nat} {w : World} (hb : b < w.heap.size) (W : World) (l : Nat) (o o' : Obj) (hl : w.heap.size ≤ l) (_ : W.heap[l]? = some o) (_ : o.isCells = false) (_ : o.isWalk = false) : KeepB b W (W.putObj l o') :=
  World.putObj_heap_other (by omega)
theorem grown_drew {w w' : World} (h : Drew w w') : w.grownBy w' none := by
  have hb := h.below w.heap.size
  exact ⟨hb.os, hb.tape, hb.output, hb.size, fun k hk _ => hb.block k hk⟩
end Go.Proofs.Ytmdmjjobhkpojaa
