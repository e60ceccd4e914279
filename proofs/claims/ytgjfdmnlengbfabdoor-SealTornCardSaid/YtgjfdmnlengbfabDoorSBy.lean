/-
  DERIVED. A text as bytes that may be written.
-/
import Derived.Test.YtgjfdmnlengbfabDoorSFrame
namespace Go.Proofs.YtgjfdmnlengbfabDoor
open Go.RowKit
theorem frz_new (w : World) (s : ByteArray) (j : Nat) (hj : j < s.size) : (Lib.bytesWorld w 5 s).frozen? ⟨w.heap.size, j, none⟩ = false := by
  have hsz : s.size ≤ (Lib.bytesCells w 5 s).size := by simp [Lib.bytesCells]
  simp [World.frozen?, Lib.bytesWorld_at_new]; omega
theorem below_bytes (w : World) (s : ByteArray) : Below w.heap.size w (Lib.bytesWorld w 5 s) :=
  ⟨rfl, rfl, rfl, by rw [Lib.bytesWorld_size]; omega, fun k hk => Lib.bytesWorld_at_old w 5 s k hk⟩
def lb (l : List UInt8) (k : Nat) : Nat := (l.getD k 0).toNat
theorem lb_at (l : List UInt8) (k : Nat) (h : k < l.length) : (l[k]).toNat = lb l k := by
  unfold lb; rw [List.getD_eq_getElem?_getD, List.getElem?_eq_getElem h]; rfl
theorem lb_lt (l : List UInt8) (k : Nat) : lb l k < 256 := (l.getD k 0).toNat_lt
theorem lb_set (l : List UInt8) (j k : Nat) (c : UInt8) (h : j < l.length) : lb (l.set j c) k = if k = j then c.toNat else lb l k := by
  unfold lb
  rw [List.getD_eq_getElem?_getD, List.getD_eq_getElem?_getD, List.getElem?_set]
  by_cases e : j = k
  · subst e; simp [h]
  · simp [e, Ne.symm e]
theorem ba_bytes (w : World) (s : ByteArray) : BA (Lib.bytesWorld w 5 s) w.heap.size s.size (lb s.data.toList) := fun k hk => by
  refine ⟨?_, frz_new w s k hk⟩
  rw [Lib.bytesWorld_cell w 5 s _ hk]; rfl
end Go.Proofs.YtgjfdmnlengbfabDoor
