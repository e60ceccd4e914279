/-
  DERIVED. sign: a code's bytes.
-/
import Derived.Test.YtmdmjjobhkpojaaQSums
set_option linter.unusedVariables false
set_option linter.unusedSimpArgs false
namespace Go.Proofs.Ytmdmjjobhkpojaa
open Go.RowKit Go.Shelf Go.Proofs.BitMath Go.Proofs.FloatMath
/-- Byte i, of its first t sums. -/
def pbN (S : List Zp) (i : Nat) : Nat → Nat
  | 0 => 0
  | t + 1 => pbN S i t * 4 + sgN (S.getD (4 * i + t) (0, 0))
theorem pbN_lt (S : List Zp) (i : Nat) : ∀ t, pbN S i t < 4 ^ t
  | 0 => by simp [pbN]
  | t + 1 => by
    have := pbN_lt S i t
    have := sgN_lt (S.getD (4 * i + t) (0, 0))
    simp only [pbN, Nat.pow_succ]; omega
/-- The bytes behind j sums. -/
def byN (S : List Zp) (j i : Nat) : Nat := pbN S i (min 4 (j - 4 * i))
theorem byN_lt (S : List Zp) (j i : Nat) : byN S j i < 256 := by
  have h1 := pbN_lt S i (min 4 (j - 4 * i))
  have h2 : 4 ^ (min 4 (j - 4 * i)) ≤ 4 ^ 4 := Nat.pow_le_pow_right (by decide) (by omega)
  unfold byN; omega
theorem byN_part (S : List Zp) (j : Nat) : byN S j (j / 4) < 64 := by
  have h1 := pbN_lt S (j / 4) (min 4 (j - 4 * (j / 4)))
  have h2 : 4 ^ (min 4 (j - 4 * (j / 4))) ≤ 4 ^ 3 := Nat.pow_le_pow_right (by decide) (by omega)
  unfold byN; omega
theorem byN_step (S : List Zp) (j : Nat) : byN S (j + 1) (j / 4) = byN S j (j / 4) * 4 + sgN (S.getD j (0, 0)) := by
  unfold byN
  rw [show min 4 (j + 1 - 4 * (j / 4)) = min 4 (j - 4 * (j / 4)) + 1 by omega]
  simp only [pbN]
  rw [show 4 * (j / 4) + min 4 (j - 4 * (j / 4)) = j by omega]
theorem byN_other (S : List Zp) (j i : Nat) (h : i ≠ j / 4) : byN S (j + 1) i = byN S j i := by
  unfold byN
  rw [show min 4 (j + 1 - 4 * i) = min 4 (j - 4 * i) by omega]
def byT (S : List Zp) (n j : Nat) : List UInt8 := (List.range n).map fun i => UInt8.ofNat (byN S j i)
theorem byT_len (S : List Zp) (n j : Nat) : (byT S n j).length = n := by simp [byT]
theorem byT_zero (S : List Zp) (n : Nat) : byT S n 0 = List.replicate n 0 := by
  apply List.ext_getElem
  · simp [byT]
  · intro i h1 h2
    simp [byT, byN, pbN]
theorem byT_at (S : List Zp) (n j i : Nat) (h : i < n) : ((byT S n j).map BV)[i]? = some (.int .u8 (byN S j i : Nat)) := by
  have hb := byN_lt S j i
  rw [List.getElem?_map, byT, List.getElem?_map, List.getElem?_eq_getElem (by simpa using h)]
  simp [BV, Nat.mod_eq_of_lt hb]
theorem byT_step (S : List Zp) (n j : Nat) (h : j / 4 < n) : ((byT S n j).map BV).set (j / 4) (.int .u8 (byN S j (j / 4) * 4 + sgN (S.getD j (0, 0)) : Nat)) = (byT S n (j + 1)).map BV := by
  apply List.ext_getElem?
  intro i
  rcases Nat.lt_or_ge i n with hi | hi
  · rw [byT_at S n (j + 1) i hi]
    by_cases e : i = j / 4
    · subst e
      rw [List.getElem?_set_self (by simp [byT_len]; exact h), byN_step]
    · rw [List.getElem?_set_ne (by omega), byT_at S n j i hi, byN_other S j i e]
  · rw [List.getElem?_eq_none (by simp [byT_len]; exact hi), List.getElem?_eq_none (by simp [byT_len]; exact hi)]
/-- The code of these sums. -/
def codeL (S : List Zp) (n : Nat) : List UInt8 := byT S n (4 * n)
def cdB (wd dm : Nat) (sd : Int) (v : List Zp) : ByteArray := if ckE dm v = 0 then ⟨(codeL (sumsL wd sd v) (wd / 8)).toArray⟩ else ⟨#[]⟩
/-- Pushed up by two, and two bits put in. -/
theorem push2 (x s : Nat) (hx : x < 64) (hs : s < 4) : (bits BinOp.or IntKind.u8 (IntKind.u8.wrap ((x : Int) * 4)) (s : Int)) = ((x * 4 + s : Nat) : Int) := by
  have key : ∀ (a : Fin 64) (b : Fin 4), (bits BinOp.or IntKind.u8 (IntKind.u8.wrap ((a.1 : Int) * 4)) (b.1 : Int)) = ((a.1 * 4 + b.1 : Nat) : Int) := by decide
  exact key ⟨x, hx⟩ ⟨s, hs⟩
end Go.Proofs.Ytmdmjjobhkpojaa
