/-
  DERIVED. The laws' handed: a top to which hits were handed in.
-/
import Derived.Test.YtdgiigaeclnflaaDoorEAdd
import Derived.Test.YtdgiigaeclnflaaDoorEFirst
set_option linter.unusedVariables false
set_option linter.unusedSimpArgs false
namespace Go.Proofs.YtdgiigaeclnflaaDoor
open Classical
open Go.RowKit
/-- A top of the call's own. -/
structure Own (w W : World) (t k kp : Nat) (X : List Ht) : Prop where
  tt : TT W t k kp X
  far : ∀ j, Ft W kp j → w.heap.size ≤ j
  tfar : w.heap.size ≤ t
  below : Below w.heap.size w W
theorem Own.frk {w W W' : World} {t k kp : Nat} {X Y : List Ht} (h : Own w W t k kp X) (hT : TT W' t k kp Y) (f : FrK kp W W') : Own w W' t k kp Y :=
  ⟨hT, fun j hj => (f.loc j hj).elim (h.far j) (fun h2 => Nat.le_trans h.below.size h2), h.tfar, h.below.trans (f.stay.toBelow (fun j hj hF => by have := h.far j hF; omega) h.below.size)⟩
theorem Own.more {w W W' : World} {t k kp : Nat} {X : List Ht} (h : Own w W t k kp X) (b : Below W.heap.size W W') : Own w W' t k kp X :=
  ⟨(h.tt.below b).1, fun j hj => h.far j (((h.tt.below b).2 j).1 hj), h.tfar, h.below.trans (b.mono h.below.size)⟩
/-- In this order or the other one. -/
def way (back : Bool) (L : List Ht) : List Ht := if back then L.reverse else L
theorem way_len (back : Bool) (L : List Ht) : (way back L).length = L.length := by unfold way; split <;> simp
theorem way_step {back : Bool} {L : List Ht} {i k : Nat} (hi : i < L.length) {x : Ht} (hx : (way back L)[i]? = some x) : topL k ((way back L).take (i + 1)) = putK k x (topL k ((way back L).take i)) := by
  have hil : i < (way back L).length := by rw [way_len]; exact hi
  rw [List.take_succ_eq_append_getElem hil, topL_snoc]
  rw [List.getElem?_eq_getElem hil] at hx
  rw [Option.some.inj hx]; rfl
theorem way_mem {back : Bool} {L : List Ht} (x : Ht) : x ∈ way back L ↔ x ∈ L := by unfold way; split <;> simp
def RH (w : World) (t k kp : Nat) (M : List Ht) (u : Value) (wr : World) : Prop := ∃ i : Nat, u = .int .i64 i ∧ i ≤ M.length ∧ Hid (Own w wr t k kp (topL k (M.take i)))
end Go.Proofs.YtdgiigaeclnflaaDoor
