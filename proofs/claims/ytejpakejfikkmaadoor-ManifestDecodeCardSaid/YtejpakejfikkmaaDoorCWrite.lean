/-
  DERIVED. Numbers that are written one behind the other.
-/
import Derived.Test.YtejpakejfikkmaaDoorCCheck
import Derived.Test.YtejpakejfikkmaaDoorBBuild
import Derived.Test.YtejpakejfikkmaaDoorBString
import Derived.Test.YtejpakejfikkmaaDoorSVarB
import Derived.Shelf.RegionOpen
import Derived.Shelf.RegionOpenPlain
set_option linter.unusedVariables false
set_option linter.unusedSimpArgs false
namespace Go.Proofs.YtejpakejfikkmaaDoor
open Go.RowKit
/-- The places of a struct's first n cells. -/
def ptsV (g n : Nat) : List Value := (List.range n).map fun k => .pointer (some ⟨g, k, none⟩)
theorem ptsV_at (g n k : Nat) (h : k < n) : (ptsV g n)[k]? = some (.pointer (some ⟨g, k, none⟩)) := by simp [ptsV, h]
set_option maxHeartbeats 1000000 in
set_option maxRecDepth 100000 in
theorem numbers_any (g : Nat) (w : World) : Calls Tryd.prog 52 #[Pt g] w fun e w' => e = .returned (.slice (some ⟨w.heap.size, 0, none⟩) 6 6) ∧ RowAt w' w.heap.size 0 (ptsV g 6) ∧ Below w.heap.size w w' := by
  have mixed : Tryd.prog.follows Departure.mixedOrders = true := by kernel_rfl
  go_enter Tryd.func52, Tryd.ntmps52
  go_wp2
  go_region_o
  go_wp2
  go_ret
  refine ⟨rfl, fun j x hx => ?_, ((Below.refl _ w).drew).alloc (Nat.le_refl _) _⟩
  rw [Nat.zero_add]
  exact SAt.new w.drew (ptsV g 6) 87 j x hx
set_option maxHeartbeats 1000000 in
set_option maxRecDepth 100000 in
theorem runNumbers_any (g : Nat) (w : World) : Calls Tryd.prog 53 #[Pt g] w fun e w' => e = .returned (.slice (some ⟨w.heap.size, 0, none⟩) 4 4) ∧ RowAt w' w.heap.size 0 (ptsV g 4) ∧ Below w.heap.size w w' := by
  have mixed : Tryd.prog.follows Departure.mixedOrders = true := by kernel_rfl
  go_enter Tryd.func53, Tryd.ntmps53
  go_wp2
  go_region_o
  go_wp2
  go_ret
  refine ⟨rfl, fun j x hx => ?_, ((Below.refl _ w).drew).alloc (Nat.le_refl _) _⟩
  rw [Nat.zero_add]
  exact SAt.new w.drew (ptsV g 4) 87 j x hx
/-- A number's bytes. -/
def pv (n : Nat) : List UInt8 := pvL 9 n
theorem pvL_len : ∀ f v, (pvL f v).length ≤ f + 1
  | 0, v => by simp [pvL]
  | f + 1, v => by
    rw [pvL]; split
    · simp
    · have := pvL_len f (v / 128); simp; omega
theorem pv_len (n : Nat) : (pv n).length ≤ 10 := pvL_len 9 n
theorem pvs_len (ns : List Nat) : (ns.flatMap pv).length ≤ ns.length * 10 := by
  induction ns with
  | nil => simp
  | cons n ns ih => have := pv_len n; rw [List.flatMap_cons, List.length_append, List.length_cons]; omega
end Go.Proofs.YtejpakejfikkmaaDoor
