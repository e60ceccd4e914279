/-
  DERIVED. More on counts and ones: the triangle, the lowest one taken off. No Go.
-/
import Derived.Test.YteiaopjpnfhbgabDoorBin
namespace Go.Proofs.MaskMath
theorem ch_self : ∀ n, ch n n = 1
  | 0 => rfl
  | n + 1 => by rw [ch_succ, ch_self n, ch_big n (n + 1) (by omega)]
theorem ch_mirror : ∀ t a b, a + b = t → ch (a + b) a = ch (a + b) b
  | _, 0, b, _ => by rw [Nat.zero_add, ch_zero, ch_self]
  | _, a + 1, 0, _ => by rw [Nat.add_zero, ch_zero, ch_self]
  | 0, a + 1, b + 1, h => by omega
  | t + 1, a + 1, b + 1, h => by
    have h1 := ch_mirror t a (b + 1) (by omega)
    have h2 := ch_mirror t (a + 1) b (by omega)
    rw [show a + 1 + (b + 1) = (a + (b + 1)) + 1 by omega, ch_succ, ch_succ, h1, show a + (b + 1) = a + 1 + b by omega, h2]
    omega
theorem ch_symm {n s : Nat} (h : s ≤ n) : ch n (n - s) = ch n s := by
  have := ch_mirror n (n - s) s (by omega)
  rwa [show n - s + s = n by omega] at this
theorem sm_succ (n : Nat) : ∀ k, sm (n + 1) (k + 1) = sm n (k + 1) + sm n k
  | 0 => by show 0 + ch (n + 1) 0 = (0 + ch n 0) + 0; rw [ch_zero, ch_zero]
  | k + 1 => by
    have := sm_succ n k
    show sm (n + 1) (k + 1) + ch (n + 1) (k + 1) = (sm n (k + 1) + ch n (k + 1)) + sm n (k + 1)
    rw [this, ch_succ]
    show sm n (k + 1) + sm n k + (ch n k + ch n (k + 1)) = sm n (k + 1) + ch n (k + 1) + (sm n k + ch n k)
    omega
theorem sm_all : ∀ n, sm n (n + 1) = 2 ^ n
  | 0 => rfl
  | n + 1 => by
    rw [sm_succ, show sm n (n + 1 + 1) = sm n (n + 1) + ch n (n + 1) from rfl, ch_big n (n + 1) (by omega), sm_all n, Nat.pow_succ]
    omega
theorem wt_half : ∀ n m, wt (n + 1) m = m % 2 + wt n (m / 2)
  | 0, m => by
    show 0 + (m.testBit 0).toNat = m % 2 + 0
    rw [Nat.testBit_zero]
    rcases Nat.mod_two_eq_zero_or_one m with h | h <;> simp [h]
  | n + 1, m => by
    rw [wt, wt_half n m, Nat.testBit_succ, wt]
    omega
theorem wt_zero : ∀ n, wt n 0 = 0
  | 0 => rfl
  | n + 1 => by rw [wt_no (by simp), wt_zero n]
theorem and_even {a b : Nat} (h : a % 2 = 0 ∨ b % 2 = 0) : (a &&& b) % 2 = 0 := by
  have h1 : (a &&& b) % 2 ^ 1 = (a % 2 ^ 1) &&& (b % 2 ^ 1) := Nat.and_mod_two_pow
  rw [Nat.pow_one] at h1
  rw [h1]
  rcases h with h | h
  · rw [h, Nat.zero_and]
  · rw [h, Nat.and_zero]
theorem wt_clear : ∀ n m, 0 < m → m < 2 ^ n → wt n (m &&& (m - 1)) + 1 = wt n m
  | 0, m, h, k => by have : m < 1 := k
                     omega
  | n + 1, m, h, k => by
    rw [wt_half, wt_half n m, Nat.and_div_two]
    rw [Nat.pow_succ] at k
    rcases Nat.mod_two_eq_zero_or_one m with e | e
    · have ih := wt_clear n (m / 2) (by omega) (by omega)
      rw [show (m - 1) / 2 = m / 2 - 1 by omega]
      have z : (m &&& (m - 1)) % 2 = 0 := and_even (by omega)
      omega
    · rw [show (m - 1) / 2 = m / 2 by omega, Nat.and_self]
      have z : (m &&& (m - 1)) % 2 = 0 := and_even (by omega)
      omega
theorem and_lt {m n : Nat} (h : m < 2 ^ n) : m &&& (m - 1) < 2 ^ n := Nat.lt_of_le_of_lt Nat.and_le_left h
end Go.Proofs.MaskMath
