/-
  DERIVED. Plain mathematics: a bit of a text turned.
-/
import Derived.Test.YtmdmjjobhkpojaaMath
namespace Go.Proofs.BitMath
/-- The mask of bit i in its byte. -/
def mk (i : Nat) : UInt8 := UInt8.ofNat (128 / 2 ^ (i % 8))
theorem pw (j : Nat) (h : j < 8) : 128 / 2 ^ j = 2 ^ (7 - j) := by
  have : ∀ k : Fin 8, 128 / 2 ^ k.1 = 2 ^ (7 - k.1) := by decide
  exact this ⟨j, h⟩
theorem mk_toNat (i : Nat) : (mk i).toNat = 2 ^ (7 - i % 8) := by
  have h : ∀ k : Fin 8, (UInt8.ofNat (128 / 2 ^ k.1)).toNat = 2 ^ (7 - k.1) := by decide
  exact h ⟨i % 8, by omega⟩
theorem mk_lt (i : Nat) : 2 ^ (7 - i % 8) < 256 := by rw [← mk_toNat]; exact (mk i).toNat_lt
/-- The text with bit i turned. -/
def flipL (l : List UInt8) (i : Nat) : List UInt8 := l.set (i / 8) (l.getD (i / 8) 0 ^^^ mk i)
theorem flipL_length (l : List UInt8) (i : Nat) : (flipL l i).length = l.length := by simp [flipL]
theorem getD_of {l : List UInt8} {k : Nat} (h : k < l.length) : l.getD k 0 = l[k] := by rw [List.getD_eq_getElem?_getD, List.getElem?_eq_getElem h]; rfl
theorem wt_set (l : List UInt8) (k : Nat) (x : UInt8) (h : k < l.length) : wt (l.set k x) + popB (l[k]).toNat = wt l + popB x.toNat := by
  induction l generalizing k with
  | nil => simp at h
  | cons c r ih => cases k with
    | zero => simp [wt]; omega
    | succ k => have := ih k (by simpa using h); simp [wt]; omega
theorem popB_flip (x j : Nat) (hx : x < 256) (hj : j < 8) : popB (x ^^^ 2 ^ j) + 2 * bt x j = popB x + 1 := by
  have : ∀ a : Fin 256, ∀ b : Fin 8, popB (a.1 ^^^ 2 ^ b.1) + 2 * bt a.1 b.1 = popB a.1 + 1 := by decide +kernel
  exact this ⟨x, hx⟩ ⟨j, hj⟩
theorem wt_flip (l : List UInt8) (i : Nat) (h : i < 8 * l.length) : wt (flipL l i) + 2 * bitL l i = wt l + 1 := by
  have hk : i / 8 < l.length := by omega
  have h1 := wt_set l (i / 8) (l.getD (i / 8) 0 ^^^ mk i) hk
  have h2 := popB_flip (l[i / 8]).toNat (7 - i % 8) (l[i / 8]).toNat_lt (by omega)
  unfold flipL bitL
  rw [getD_of hk] at *
  rw [UInt8.toNat_xor, mk_toNat] at h1
  omega
theorem flip_flip (l : List UInt8) (i : Nat) (h : i < 8 * l.length) : flipL (flipL l i) i = l := by
  have hk : i / 8 < l.length := by omega
  have hk2 : i / 8 < (flipL l i).length := by rw [flipL_length]; exact hk
  have hg : (flipL l i).getD (i / 8) 0 = l.getD (i / 8) 0 ^^^ mk i := by rw [getD_of hk2]; simp [flipL]
  have : flipL (flipL l i) i = (flipL l i).set (i / 8) ((flipL l i).getD (i / 8) 0 ^^^ mk i) := rfl
  rw [this, hg, UInt8.xor_assoc, UInt8.xor_self, UInt8.xor_zero]
  unfold flipL
  rw [List.set_set, getD_of hk, List.set_getElem_self]
theorem xor_flip (s t : List UInt8) (i : Nat) (h : s.length = t.length) (hi : i < 8 * s.length) : xorL s (flipL t i) = flipL (xorL s t) i := by
  have h1 : i / 8 < s.length := by omega
  have h2 : i / 8 < t.length := by omega
  have h3 : i / 8 < (xorL s t).length := by rw [xorL_length _ _ h]; exact h1
  apply List.ext_getElem
  · rw [xorL_length _ _ (by rw [flipL_length]; exact h), flipL_length, xorL_length _ _ h]
  · intro n a b
    have na : n < s.length := by rw [xorL_length _ _ (by rw [flipL_length]; exact h)] at a; exact a
    rw [xorL_get s (flipL t i) n a na (by rw [flipL_length]; omega)]
    simp only [flipL, List.getElem_set]
    by_cases e : i / 8 = n
    · subst e
      simp only [if_true]
      rw [getD_of h2, getD_of h3, xorL_get _ _ _ h3 h1 h2, UInt8.xor_assoc]
    · simp only [if_neg e]
      rw [xorL_get s t n _ na (by omega)]
theorem dist_flip (s t : List UInt8) (i : Nat) (h : s.length = t.length) (hi : i < 8 * s.length) : wt (xorL s (flipL t i)) + 2 * ((bitL s i + bitL t i) % 2) = wt (xorL s t) + 1 := by
  rw [xor_flip s t i h hi, ← bitL_xor s t h i hi]
  exact wt_flip _ _ (by rw [xorL_length _ _ h]; exact hi)
theorem and_bt (x j : Nat) : x &&& 2 ^ j = bt x j * 2 ^ j := by
  rw [bt_testBit]
  apply Nat.eq_of_testBit_eq
  intro i
  rw [Nat.testBit_and, Nat.testBit_two_pow]
  by_cases e : j = i
  · subst e; cases h : x.testBit j <;> simp
  · cases h : x.testBit j <;> simp [e]
theorem and_bt_zero (x j : Nat) : x &&& 2 ^ j = 0 ↔ bt x j = 0 := by
  rw [and_bt]; have := Nat.two_pow_pos j
  constructor
  · intro h; rcases Nat.mul_eq_zero.1 h with h | h <;> omega
  · intro h; rw [h]; simp
end Go.Proofs.BitMath
