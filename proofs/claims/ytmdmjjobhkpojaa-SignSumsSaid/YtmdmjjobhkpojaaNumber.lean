/-
  DERIVED. number: the number that n bits make.
-/
import Derived.Test.YtmdmjjobhkpojaaPlaces
namespace Go.Proofs.Ytmdmjjobhkpojaa
open Go.RowKit Go.Shelf Go.Proofs.BitMath
attribute [local go_sem] Oper.semAt_some
/-- The number that the bits at these places make, the first the highest. -/
def numN (l : List UInt8) (js : List Nat) : Nat := js.foldl (fun v j => 2 * v + bitL l j) 0
theorem numN_snoc (l : List UInt8) (js : List Nat) (j : Nat) : numN l (js ++ [j]) = 2 * numN l js + bitL l j := by simp [numN]
theorem numG_lt (l : List UInt8) (js : List Nat) : ∀ v, js.foldl (fun v j => 2 * v + bitL l j) v < (v + 1) * 2 ^ js.length := by
  induction js with
  | nil => intro v; simp
  | cons j js ih =>
    intro v
    have h1 := ih (2 * v + bitL l j)
    have h2 := bitL_le l j
    have h3 : (2 * v + bitL l j + 1) * 2 ^ js.length ≤ (2 * (v + 1)) * 2 ^ js.length := Nat.mul_le_mul_right _ (by omega)
    simp only [List.foldl_cons, List.length_cons, Nat.pow_succ]
    have h4 : (2 * (v + 1)) * 2 ^ js.length = (v + 1) * (2 ^ js.length * 2) := by rw [Nat.mul_comm 2 (v + 1), Nat.mul_assoc, Nat.mul_comm 2]
    omega
theorem numN_lt (l : List UInt8) (js : List Nat) : numN l js < 2 ^ js.length := by
  have := numG_lt l js 0; simpa [numN] using this
theorem pow_bd (k : Nat) (h : k < 64) : 2 ^ k ≤ 9223372036854775808 := by
  have : 2 ^ k ≤ 2 ^ 63 := Nat.pow_le_pow_right (by omega) (by omega)
  simpa using this
theorem addr_ne {a b : Addr} (h : a.block ≠ b.block) : a ≠ b := fun e => h (congrArg Addr.block e)
theorem or_one (v : Nat) (h : v < 9223372036854775808) : bits .or .u64 ((v : Int) * 2) 1 = 2 * (v : Int) + 1 := by
  have h1 := u64_or_nat (v * 2) 1 (by omega) (by omega)
  have h2 : v * 2 ||| 1 = v * 2 + 1 := by
    have := Nat.two_pow_add_eq_or_of_lt (i := 1) (b := 1) (by omega) v
    rw [Nat.mul_comm v 2]; simpa using this.symm
  rw [h2] at h1
  have e : ((v : Int) * 2) = ((v * 2 : Nat) : Int) := by omega
  rw [e, show (1 : Int) = ((1 : Nat) : Int) from rfl, h1]; omega
end Go.Proofs.Ytmdmjjobhkpojaa
