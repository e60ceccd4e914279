/-
  DERIVED. Plain mathematics: chunks.
-/
import Derived.Test.YtmdmjjobhkpojaaMathB
namespace Go.Proofs.BitMath
/-- Where chunk j of m begins. -/
def frC (w m j : Nat) : Nat := j * (w / m) + min j (w % m)
/-- How many bits it has. -/
def btC (w m j : Nat) : Nat := if j < w % m then w / m + 1 else w / m
theorem frC_zero (w m : Nat) : frC w m 0 = 0 := by simp [frC]
theorem frC_succ (w m j : Nat) : frC w m (j + 1) = frC w m j + btC w m j := by
  unfold frC btC; rw [Nat.succ_mul]; split <;> omega
theorem frC_end (w m : Nat) (h : 0 < m) : frC w m m = w := by
  unfold frC
  have h1 := Nat.mod_lt w h
  have h2 := Nat.div_add_mod w m
  rw [show min m (w % m) = w % m from by omega]; exact h2
theorem frC_mono (w m j k : Nat) (h : j ≤ k) : frC w m j ≤ frC w m k := by
  induction k with
  | zero => rw [Nat.le_zero.1 h]; exact Nat.le_refl _
  | succ k ih =>
    by_cases e : j = k + 1
    · rw [e]; exact Nat.le_refl _
    · have := ih (by omega); rw [frC_succ]; omega
theorem frC_in (w m j : Nat) (h : j < m) : frC w m j + btC w m j ≤ w := by
  have := frC_mono w m (j + 1) m h
  rw [frC_end w m (by omega), frC_succ] at this; exact this
/-- A width and a number of chunks that goes with it. -/
def OkC (w m : Nat) : Prop := 64 ≤ w ∧ w ≤ 1024 ∧ w % 64 = 0 ∧ w / 32 ≤ m ∧ m ≤ w / 8
theorem OkC.pos {w m : Nat} (h : OkC w m) : 0 < m := by obtain ⟨h1, _, _, h4, _⟩ := h; omega
theorem OkC.le {w m : Nat} (h : OkC w m) : m ≤ 128 := by obtain ⟨_, h2, _, _, h5⟩ := h; omega
theorem btC_bd {w m : Nat} (h : OkC w m) (j : Nat) : 8 ≤ btC w m j ∧ btC w m j ≤ 32 := by
  have hp := h.pos
  obtain ⟨h1, h2, h3, h4, h5⟩ := h
  have a : 8 ≤ w / m := by rw [Nat.le_div_iff_mul_le hp]; omega
  have b : w / m ≤ 32 := by
    have : w / m < 33 := by rw [Nat.div_lt_iff_lt_mul hp]; omega
    omega
  have c : w / m = 32 → w % m = 0 := by
    intro e
    have := Nat.div_add_mod w m
    rw [e] at this; omega
  unfold btC; split <;> omega
theorem btC_anti (w m i j : Nat) (h : i ≤ j) : btC w m j ≤ btC w m i := by unfold btC; split <;> split <;> omega
theorem btC_diff (w m i j : Nat) : btC w m i ≤ btC w m j + 1 := by unfold btC; split <;> split <;> omega
end Go.Proofs.BitMath
