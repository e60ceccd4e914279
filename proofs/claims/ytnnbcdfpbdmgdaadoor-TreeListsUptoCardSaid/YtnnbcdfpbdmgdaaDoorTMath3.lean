/-
  DERIVED. How far a code may be: the k-th least of the distances so far, or the bound itself.
-/
import Derived.Test.YtnnbcdfpbdmgdaaDoorTMath2
set_option linter.unusedVariables false
namespace Go.Proofs.TreeMath
/-- How many are nearer than b. -/
def lc (D : List Nat) (b : Nat) : Nat := D.countP (fun x => decide (x < b))
theorem lc_zero (D : List Nat) : lc D 0 = 0 := by unfold lc; simp
theorem lc_snoc (D : List Nat) (x b : Nat) : lc (D ++ [x]) b = lc D b + (if x < b then 1 else 0) := by
  unfold lc
  rw [List.countP_append, List.countP_singleton]
  simp
theorem lc_mono (D : List Nat) {a b : Nat} (h : a ≤ b) : lc D a ≤ lc D b := by
  unfold lc
  refine List.countP_mono_left fun x _ hx => ?_
  simp at hx ⊢
  omega
theorem lc_le (D : List Nat) (b : Nat) : lc D b ≤ D.length := List.countP_le_length
/-- The bound falls as long as k are nearer than it. -/
def lower (k : Nat) (D : List Nat) : Nat → Nat
  | 0 => 0
  | b + 1 => if k ≤ lc D (b + 1) then lower k D b else b + 1
theorem lower_le (k : Nat) (D : List Nat) : ∀ b, lower k D b ≤ b
  | 0 => Nat.le_refl _
  | b + 1 => by
    unfold lower
    split
    · exact Nat.le_succ_of_le (lower_le k D b)
    · exact Nat.le_refl _
theorem lower_lt {k : Nat} (hk : 1 ≤ k) (D : List Nat) : ∀ b, lc D (lower k D b) < k
  | 0 => by unfold lower; rw [lc_zero]; omega
  | b + 1 => by
    unfold lower
    split
    · exact lower_lt hk D b
    · omega
theorem lower_ge (k : Nat) (D : List Nat) : ∀ b, lower k D b = b ∨ k ≤ lc D (lower k D b + 1)
  | 0 => .inl rfl
  | b + 1 => by
    by_cases h : k ≤ lc D (b + 1)
    · have e : lower k D (b + 1) = lower k D b := by rw [lower, if_pos h]
      rw [e]
      rcases lower_ge k D b with h2 | h2
      · exact .inr (by rw [h2]; exact h)
      · exact .inr h2
    · exact .inl (by rw [lower, if_neg h])
/-- It is the one that is so. -/
theorem lower_one {k : Nat} (hk : 1 ≤ k) {D : List Nat} {b c : Nat} (h1 : c ≤ b) (h2 : lc D c < k) (h3 : c = b ∨ k ≤ lc D (c + 1)) : lower k D b = c := by
  have a1 := lower_le k D b
  have a2 := lower_lt hk D b
  have a3 := lower_ge k D b
  rcases Nat.lt_trichotomy (lower k D b) c with h | h | h
  · exfalso
    rcases a3 with a3 | a3
    · omega
    · have := lc_mono D (show lower k D b + 1 ≤ c by omega)
      omega
  · exact h
  · exfalso
    rcases h3 with h3 | h3
    · omega
    · have := lc_mono D (show c + 1 ≤ lower k D b by omega)
      omega
/-- One more lets it fall, or leaves it; it may go on from where it stood. -/
theorem lower_snoc_le {k : Nat} (hk : 1 ≤ k) (D : List Nat) (x b : Nat) : lower k (D ++ [x]) b ≤ lower k D b := by
  have a1 := lower_lt hk (D ++ [x]) b
  have a2 := lower_ge k D b
  have a3 := lower_le k (D ++ [x]) b
  rcases a2 with a2 | a2
  · omega
  · rcases Nat.lt_or_ge (lower k D b) (lower k (D ++ [x]) b) with h | h
    · exfalso
      have h1 := lc_mono (D ++ [x]) (show lower k D b + 1 ≤ lower k (D ++ [x]) b by omega)
      have h2 := lc_snoc D x (lower k D b + 1)
      omega
    · exact h
theorem lower_from {k : Nat} (hk : 1 ≤ k) (D : List Nat) (x b : Nat) : lower k (D ++ [x]) (lower k D b) = lower k (D ++ [x]) b := by
  have a0 := lower_snoc_le hk D x b
  have a1 := lower_lt hk (D ++ [x]) b
  have a2 := lower_ge k (D ++ [x]) b
  have a3 := lower_le k D b
  refine lower_one hk a0 a1 ?_
  rcases a2 with a2 | a2
  · exact .inl (by omega)
  · exact .inr a2
theorem lower_far {k : Nat} (hk : 1 ≤ k) (D : List Nat) {x b : Nat} (hx : lower k D b < x) : lower k (D ++ [x]) b = lower k D b := by
  have a1 := lower_lt hk D b
  have a2 := lower_ge k D b
  refine lower_one hk (lower_le k D b) ?_ ?_
  · rw [lc_snoc, if_neg (by omega)]; omega
  · rcases a2 with a2 | a2
    · exact .inl a2
    · right; rw [lc_snoc]; omega
/-- With fewer than k it stays. -/
theorem lower_few {k : Nat} (D : List Nat) (b : Nat) (h : D.length < k) : lower k D b = b := by
  cases b with
  | zero => rfl
  | succ b =>
    have := lc_le D (b + 1)
    rw [lower, if_neg (by omega)]
/-- All that are near having been met, the bound is that of all. -/
theorem lower_all {k : Nat} (hk : 1 ≤ k) {D A : List Nat} {b : Nat} (hD : ∀ c, c ≤ lower k D b + 1 → lc D c = lc A c) : lower k A b = lower k D b := by
  refine lower_one hk (lower_le k D b) ?_ ?_
  · rw [← hD _ (by omega)]; exact lower_lt hk D b
  · rcases lower_ge k D b with h | h
    · exact .inl h
    · right; rw [← hD _ (Nat.le_refl _)]; exact h
end Go.Proofs.TreeMath
