/-
  DERIVED. Encode: the walk.
-/
import Derived.Test.YtejpakejfikkmaaDoorCEnc
set_option linter.unusedVariables false
set_option linter.unusedSimpArgs false
namespace Go.Proofs.YtejpakejfikkmaaDoor
open Go.RowKit Go.Proofs.SealMath
theorem SAt.take {w : World} {g : Nat} {l m : List Value} (h : SAt w g (l ++ m)) : SAt w g l := fun j v hv => h j v (by
  have hj : j < l.length := by
    rcases Nat.lt_or_ge j l.length with h | h
    · exact h
    · rw [List.getElem?_eq_none h] at hv; cases hv
  rw [List.getElem?_append_left hj]; exact hv)
theorem SAt.stay {F : Nat → Prop} {w w' : World} {g : Nat} {l : List Value} (h : SAt w g l) (s : Stay F w w') (hn : ¬ F g) : SAt w' g l := fun j v hv => by
  have fg := h j v hv
  have := s.block g (World.block_lt_of_cell? w _ fg) hn
  unfold World.cell? at fg ⊢; simp only at fg ⊢; rw [this]; exact fg
theorem pv_pos (n : Nat) : 0 < (pv n).length := by unfold pv; rw [pvL]; split <;> simp
end Go.Proofs.YtejpakejfikkmaaDoor
