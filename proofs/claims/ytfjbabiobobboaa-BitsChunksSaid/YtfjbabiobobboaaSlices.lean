/-
  DERIVED. Numbers out of bits: two behind one another.
-/
import Derived.Test.YtfjbabiobobboaaNumber
namespace Go.Proofs.Ytfjbabiobobboaa
open Go.RowKit Go.Proofs.BitMath
theorem range_snoc (fr k : Nat) : (List.range (k + 1)).map (fr + ·) = (List.range k).map (fr + ·) ++ [fr + k] := by rw [List.range_succ, List.map_append]; rfl
theorem numG_app (l : List UInt8) (js : List Nat) : ∀ v, js.foldl (fun v j => 2 * v + bitL l j) v = v * 2 ^ js.length + numN l js := by
  induction js with
  | nil => intro v; simp [numN]
  | cons j js ih =>
    intro v
    have h0 : numN l (j :: js) = js.foldl (fun v j => 2 * v + bitL l j) (2 * 0 + bitL l j) := rfl
    rw [h0, List.foldl_cons, ih, ih, List.length_cons, Nat.pow_succ, Nat.add_mul, Nat.add_mul]
    have e : 2 * v * 2 ^ js.length = v * (2 ^ js.length * 2) := by rw [Nat.mul_comm 2 v, Nat.mul_assoc, Nat.mul_comm 2]
    simp only [Nat.mul_zero, Nat.zero_mul]
    omega
theorem numN_app (l : List UInt8) (js ks : List Nat) : numN l (js ++ ks) = numN l js * 2 ^ ks.length + numN l ks := by
  have : numN l (js ++ ks) = ks.foldl (fun v j => 2 * v + bitL l j) (numN l js) := by simp [numN]
  rw [this, numG_app]
/-- The number of n bits from fr on. -/
def numR (l : List UInt8) (fr n : Nat) : Nat := numN l ((List.range n).map (fr + ·))
theorem numR_split (l : List UInt8) (fr k m : Nat) : numR l fr (k + m) = numR l fr k * 2 ^ m + numR l (fr + k) m := by
  unfold numR
  have e : (List.range (k + m)).map (fr + ·) = (List.range k).map (fr + ·) ++ (List.range m).map (fr + k + ·) := by
    rw [List.range_add, List.map_append, List.map_map]; congr 1; apply List.map_congr_left; intro a _; simp; omega
  rw [e, numN_app]; simp
theorem numR_lt (l : List UInt8) (fr n : Nat) : numR l fr n < 2 ^ n := by have := numN_lt l ((List.range n).map (fr + ·)); unfold numR; simpa using this
theorem numR_succ (l : List UInt8) (fr k : Nat) : numR l fr (k + 1) = 2 * numR l fr k + bitL l (fr + k) := by unfold numR; rw [range_snoc, numN_snoc]
/-- The two halves, shifted and joined, are the whole. -/
theorem halves (l : List UInt8) (fr k m : Nat) (h : k + m ≤ 64) :
    IntKind.u64.wrap ((numR l fr k : Int) * 2 ^ m) = ((numR l fr k * 2 ^ m : Nat) : Int) ∧ bits .or .u64 ((numR l fr k * 2 ^ m : Nat) : Int) (numR l (fr + k) m : Int) = (numR l fr (k + m) : Int) := by
  have h1 := numR_lt l fr (k + m)
  have h2 := numR_lt l (fr + k) m
  have h3 := numR_split l fr k m
  have h4 : 2 ^ (k + m) ≤ 2 ^ 64 := Nat.pow_le_pow_right (by omega) h
  have h5 : numR l fr k * 2 ^ m < 18446744073709551616 := by omega
  constructor
  · have e : ((numR l fr k : Int) * 2 ^ m) = ((numR l fr k * 2 ^ m : Nat) : Int) := by simp
    rw [e, IntKind.wrap_u64]; omega
  · rw [u64_or_nat _ _ h5 (by omega), h3]
    have := Nat.two_pow_add_eq_or_of_lt h2 (numR l fr k)
    rw [Nat.mul_comm (numR l fr k), ← this]
end Go.Proofs.Ytfjbabiobobboaa
