/-
  DERIVED. Numbers, heads, entries and lines as bytes: the program's.
-/
import Derived.Test.YtdegclccbgpgiaaDoorBMath
import Derived.Test.YtdegclccbgpgiaaDoorSFixB
import Derived.Test.YtdegclccbgpgiaaDoorSRFrame
import Derived.Deep.RegionHeld
set_option linter.unusedVariables false
set_option linter.unusedSimpArgs false
namespace Go.Proofs.YtdegclccbgpgiaaDoor
open Go.RowKit Go.Proofs.SealMath
theorem putvar_x (v : Nat) (w : World) (hv : v < 18446744073709551616) :
    Calls Tryd.prog 85 #[.int .u64 v] w fun e w' => ∃ X : ByteArray, e = .returned (.string X) ∧ X.size ≤ 10 ∧ Hid (X.data.toList = pvL 9 v) ∧ Below w.heap.size w w' :=
  (putvar_any v w hv).mono fun e w' h => ⟨_, h.1, by have := (pvL_len 9 v).2; show (pvL 9 v).toArray.size ≤ 10; simpa using this, rfl, h.2⟩
theorem rputvar_x (v : Nat) (w : World) (hv : v < 18446744073709551616) :
    Calls Tryd.prog 101 #[.int .u64 v] w fun e w' => ∃ X : ByteArray, e = .returned (.string X) ∧ X.size ≤ 10 ∧ Hid (X.data.toList = pvL 9 v) ∧ Below w.heap.size w w' :=
  (rputvar_any v w hv).mono fun e w' h => ⟨_, h.1, by have := (pvL_len 9 v).2; show (pvL 9 v).toArray.size ≤ 10; simpa using this, rfl, h.2⟩
theorem below_d {w w' : World} (b : Below w.drew.heap.size w.drew w') : Below w.heap.size w w' := ⟨b.os, b.tape, b.output, b.size, b.block⟩
theorem cell_lat {W W' : World} {p : Addr} {v : Value} (hb : Below W.heap.size W W') (h : W.cell? p = some v) : W'.cell? p = some v := (hb.cell (World.block_lt_of_cell? W p h)).trans h
theorem b_drew (W : World) : Below W.heap.size W W.drew := (Below.refl _ W).drew
theorem Tab.lat {w w' : World} (h : Tab w) (hb : Below w.heap.size w w') : Tab w' := fun i hi => cell_lat hb (h i hi)
theorem Tab.pos {w : World} (h : Tab w) : 0 < w.heap.size := World.block_lt_of_cell? w ⟨0, 0, none⟩ (h 0 (by omega))
/-- A struct's cells lie in a block. -/
def SAt (w : World) (g : Nat) (l : List Value) : Prop := ∀ j v, l[j]? = some v → w.cell? ⟨g, j, none⟩ = some v
theorem SAt.new (w : World) (l : List Value) (t : TypeId) : SAt (w.alloc (.cells l.toArray t)) w.heap.size l := fun j v hv => by
  rw [cell_of_row _ _ j _ t (0, 0) (heap_alloc_last w _)]
  simpa using hv
theorem SAt.below {w w' : World} {g B : Nat} {l : List Value} (h : SAt w g l) (b : Below B w w') (hg : g < B) : SAt w' g l := fun j v hv => (b.cell (p := ⟨g, j, none⟩) hg).trans (h j v hv)
theorem number_x (n : Nat) (w : World) (hn : n < 9223372036854775808) :
    Calls Tryd.prog 51 #[.int .i64 n] w fun e w' => ∃ X : ByteArray, e = .returned (.string X) ∧ X.size ≤ 10 ∧ Hid (X.data.toList = pvL 9 n) ∧ Below w.heap.size w w' := by
  have hw : IntKind.u64.wrap (n : Int) = n := by rw [IntKind.wrap_u64]; omega
  go_enter Tryd.func51, Tryd.ntmps51
  go_wp2_with (go_at_call 85; refine (putvar_x _ _ (by omega)).mono ?_; rintro e w2 ⟨X, rfl, hX, HX, b2⟩)
  go_ret
  exact ⟨X, rfl, hX, HX, b2⟩
theorem fixed_x (n : Nat) (w : World) (hn : n < 4294967296) :
    Calls Tryd.prog 52 #[.int .u64 n, .int .i64 4] w fun e w' => ∃ X : ByteArray, e = .returned (.string X) ∧ X.size ≤ 4 ∧ Hid (X.data.toList = fixL n 4) ∧ Below w.heap.size w w' := by
  go_enter Tryd.func52, Tryd.ntmps52
  go_wp2_with (go_at_call 79; refine (putfix_ok n 4 _ (by omega) (by omega) (by omega) (by omega)).mono ?_; rintro e w2 ⟨rfl, b2⟩)
  go_ret
  exact ⟨_, rfl, by show (fixL n 4).toArray.size ≤ 4; simp [fixL_len], rfl, b2⟩
end Go.Proofs.YtdegclccbgpgiaaDoor
