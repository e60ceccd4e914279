/-
  DERIVED. A search that refuses; one of nothing.
-/
import Derived.Test.YtdgiigaeclnflaaDoorPBegin
import Derived.Test.YtdgiigaeclnflaaDoorEWorst
set_option linter.unusedVariables false
set_option linter.unusedSimpArgs false
namespace Go.Proofs.YtdgiigaeclnflaaDoor
open Go.RowKit Go.Proofs.BitMath
theorem eql_nilN (W : World) : (binOp .eql 22 .nilFunc .nilFunc).run Tryd.prog W = .ok (.bool true) W := by kernel_rfl
theorem eql_nilM (W : World) : (binOp .eql 23 .nilFunc .nilFunc).run Tryd.prog W = .ok (.bool true) W := by kernel_rfl
set_option maxHeartbeats 2000000 in
set_option maxRecDepth 100000 in
theorem begin_no (x m : Nat) (h : OkC x m) (codes : Int) (vf af : Value) (hb : codes < 0 ∨ (0 ≤ codes ∧ vf = .nilFunc) ∨ (0 ≤ codes ∧ (∃ f a c, vf = .func f a c) ∧ af = .nilFunc)) (q : ByteArray) (w : World) :
    Calls Tryd.prog 10 #[.agg (srcC x m codes vf af).toArray, .string q] w fun e w' => e = .returned (.tuple #[.pointer none, .int .i64 13]) ∧ Below w.heap.size w w' := by
  have hc := fun W => chunks_yes x m W h
  obtain ⟨W0, hW0⟩ : ∃ W0, W0 = w.alloc (.cells (srcC x m codes vf af).toArray 25) := ⟨_, rfl⟩
  have bA : Below w.heap.size w W0 := by rw [hW0]; exact (Below.refl _ w).alloc (Nat.le_refl _) _
  have S0 : SAt W0 w.heap.size (srcC x m codes vf af) := by rw [hW0]; exact SAt.new w _ _
  have hw' := hW0.symm
  have z0 := S0 0 _ rfl
  have z1 := S0 1 _ rfl
  have z2 := S0 2 _ rfl
  have z3 := S0 3 _ rfl
  have z4 := S0 4 _ rfl
  simp only [srcC] at hw' ⊢
  have HB := Hid.mk bA
  clear h hW0 S0 bA
  rcases hb with hb | ⟨hb, rfl⟩ | ⟨hb, ⟨f, a, c, rfl⟩, rfl⟩
  · go_enter Tryd.func10, Tryd.ntmps10
    go_wp2_with (go_at_call 18; refine (hc _).mono ?_; clear hc; rintro e w1 ⟨⟨g, cs, hg, hr, hh, rfl⟩, b1⟩; replace z0 := cell_lat b1 z0; replace z1 := cell_lat b1 z1; replace z2 := cell_lat b1 z2; replace z3 := cell_lat b1 z3; replace z4 := cell_lat b1 z4)
    have HE := Hid.mk (HB.out.trans (b1.mono HB.out.size))
    clear b1 hr hh
    go_ret2
    exact ⟨rfl, HE.out⟩
  · have hn : ¬ codes < 0 := by omega
    have he := eql_nilN
    clear hb
    go_enter Tryd.func10, Tryd.ntmps10
    go_wp2_with (go_at_call 18; refine (hc _).mono ?_; clear hc; rintro e w1 ⟨⟨g, cs, hg, hr, hh, rfl⟩, b1⟩; replace z0 := cell_lat b1 z0; replace z1 := cell_lat b1 z1; replace z2 := cell_lat b1 z2; replace z3 := cell_lat b1 z3; replace z4 := cell_lat b1 z4)
    have HE := Hid.mk (HB.out.trans (b1.mono HB.out.size))
    clear b1 hr hh
    go_ret2
    exact ⟨rfl, HE.out⟩
  · have hn : ¬ codes < 0 := by omega
    have he1 := eql_nilV f a c
    have he2 := eql_nilM
    clear hb
    go_enter Tryd.func10, Tryd.ntmps10
    go_wp2_with (go_at_call 18; refine (hc _).mono ?_; clear hc; rintro e w1 ⟨⟨g, cs, hg, hr, hh, rfl⟩, b1⟩; replace z0 := cell_lat b1 z0; replace z1 := cell_lat b1 z1; replace z2 := cell_lat b1 z2; replace z3 := cell_lat b1 z3; replace z4 := cell_lat b1 z4)
    have HE := Hid.mk (HB.out.trans (b1.mono HB.out.size))
    clear b1 hr hh
    go_ret2
    exact ⟨rfl, HE.out⟩
end Go.Proofs.YtdgiigaeclnflaaDoor
