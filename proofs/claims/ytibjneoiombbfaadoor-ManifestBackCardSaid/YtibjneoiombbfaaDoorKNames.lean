/-
  DERIVED. ManifestNames: the walk.
-/
import Derived.Test.YtibjneoiombbfaaDoorKLaw
import Derived.Test.YtibjneoiombbfaaDoorCCheck
set_option linter.unusedVariables false
set_option linter.unusedSimpArgs false
namespace Go.Proofs.YtibjneoiombbfaaDoor
open Go.RowKit
theorem num_any (x : Int) (w : World) : Calls Tryd.prog 13 #[.int .i64 x] w fun e w' => e = .returned (.int .i64 x) ∧ w' = w := by
  go_enter Tryd.func13, Tryd.ntmps13
  go_wp2
  go_ret
  exact ⟨rfl, rfl⟩
def m0 : Mf := ⟨0, 0, 0, 0, 0, 0, []⟩
set_option maxHeartbeats 2000000 in
set_option maxRecDepth 100000 in
theorem law_names (w : World) (V : Vs w) : Calls Tryd.prog 8 #[] w fun e w' => e = .returned (.bool true) ∧ Below w.heap.size w w' := by
  have hi : Lib.itoa 7 = [55] := by unfold Lib.itoa; rw [if_neg (by decide)]; unfold Lib.decDigits; rw [dif_pos (by decide)]; rfl
  have k1 := kj_of ⟨#[106, 55]⟩ [106, 55] 3 7 0 rfl (by rw [← hi]; exact kind_of_j 7 (by decide) (by decide)) (by decide) w V
  have c1 := fun W => check_any m0 none 0 W ⟨fun h => absurd rfl h⟩ ⟨by decide, by decide, by decide, by decide, by decide, by decide, fun r hr => by cases hr⟩ (by decide)
  simp only [mfC, m0] at c1
  have e1 : chE ⟨0, 0, 0, 0, 0, 0, []⟩ = 10 := rfl
  rw [e1] at c1
  clear hi e1
  go_enter Tryd.func8, Tryd.ntmps8
  go_wp2_with first
    | (go_at_call 23; refine k1.mono ?_; rintro e w1 ⟨rfl, b1⟩; clear k1)
    | (go_at_call 16; refine (c1 _).mono ?_; rintro e w2 ⟨rfl, b2'⟩; have b2 := chain b1 b2' (Nat.le_refl _); clear c1)
    | (go_at_call 13; refine (num_any _ _).mono ?_; rintro e w' ⟨rfl, rfl⟩)
  go_ret
  exact ⟨rfl, b2⟩
end Go.Proofs.YtibjneoiombbfaaDoor
