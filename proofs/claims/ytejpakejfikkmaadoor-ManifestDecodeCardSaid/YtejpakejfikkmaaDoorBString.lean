/-
  DERIVED. What a builder holds, as a text.
-/
import Derived.Test.YtejpakejfikkmaaDoorBBuild
import Derived.Deep.RegionHeld
set_option linter.unusedVariables false
set_option linter.unusedSimpArgs false
namespace Go.Proofs.YtejpakejfikkmaaDoor
open Go.RowKit
theorem stay_freeze {F : Nat → Prop} {a w : World} (h : Stay F a w) {p : Addr} (hp : F p.block) (n : Nat) : Stay F a (w.freeze p n) := by
  refine h.trans ?_
  unfold World.freeze
  split
  · exact Stay.refl F w
  · exact ⟨rfl, rfl, rfl, by simp, fun k hk hF => by
      simp only [Array.getElem?_modify]
      rw [if_neg (fun e : p.block = k => hF (e ▸ hp))]⟩
end Go.Proofs.YtejpakejfikkmaaDoor
