/-
  DERIVED. Numbers in so many bytes: PutFix, Fix; the document's own.
-/
import Derived.Test.YtjdknijjkjmafaaSBA
import Derived.Test.YtjdknijjkjmafaaSMath
namespace Go.Proofs.Ytjdknijjkjmafaa
open Go.RowKit Go.Proofs.SealMath
/-- The bytes of a number, the greatest first. -/
def fxB (v n k : Nat) : Nat := v / 256 ^ (n - 1 - k) % 256
def fixL (v n : Nat) : List UInt8 := (List.range n).map fun k => UInt8.ofNat (fxB v n k)
theorem fixL_len (v n : Nat) : (fixL v n).length = n := by simp [fixL]
theorem fixL_at (v n k : Nat) (h : k < n) : (fixL v n)[k]'(by rw [fixL_len]; exact h) = UInt8.ofNat (fxB v n k) := by simp [fixL]
theorem fixL_nat (v n k : Nat) (h : k < n) : ((fixL v n)[k]'(by rw [fixL_len]; exact h)).toNat = fxB v n k := by
  rw [fixL_at v n k h, UInt8.toNat_ofNat']; exact Nat.mod_mod _ _
theorem pow256 (k : Nat) : 256 ^ k = 2 ^ (8 * k) := by rw [Nat.pow_mul]
/-- What PutFix answers. -/
def pfE (v : Nat) (n : Int) : Int := if 1 ≤ n ∧ n ≤ 8 then if v < 256 ^ n.toNat then 0 else 30 else 13
def pfT (v : Nat) (n : Int) : List UInt8 := if 1 ≤ n ∧ n ≤ 8 then if v < 256 ^ n.toNat then fixL v n.toNat else [] else []
/-- The number of some bytes, the greatest first. -/
def numL (l : List UInt8) : Nat := l.foldl (fun v c => 256 * v + c.toNat) 0
theorem numL_snoc (l : List UInt8) (c : UInt8) : numL (l ++ [c]) = 256 * numL l + c.toNat := by unfold numL; rw [List.foldl_append]; rfl
theorem numL_lt (l : List UInt8) : numL l < 256 ^ l.length := by
  suffices h : ∀ (m : List UInt8), numL m.reverse < 256 ^ m.length by simpa using h l.reverse
  intro m
  induction m with
  | nil => exact Nat.one_pos
  | cons c m ih => rw [List.reverse_cons, numL_snoc, List.length_cons, Nat.pow_succ]; have := c.toNat_lt; omega
/-- The part of a text. -/
def sub (b : ByteArray) (a n : Nat) : List UInt8 := (b.data.toList.drop a).take n
theorem sub_len (b : ByteArray) (a n : Nat) (h : a + n ≤ b.size) : (sub b a n).length = n := by
  unfold sub; rw [List.length_take, List.length_drop]; have : b.data.toList.length = b.size := Array.length_toList
  omega
theorem sub_snoc (b : ByteArray) (a n : Nat) (h : a + n < b.size) : sub b a (n + 1) = sub b a n ++ [b[a + n]] := by
  unfold sub
  have hl : n < (b.data.toList.drop a).length := by rw [List.length_drop]; have : b.data.toList.length = b.size := Array.length_toList
                                                    omega
  rw [List.take_succ_eq_append_getElem hl]; simp; rfl
theorem numL_sub_lt (b : ByteArray) (a n m : Nat) (h : a + n ≤ b.size) (hm : n ≤ m) : numL (sub b a n) < 256 ^ m := by
  have := numL_lt (sub b a n)
  rw [sub_len b a n h] at this
  exact Nat.lt_of_lt_of_le this (Nat.pow_le_pow_right (by decide) hm)
end Go.Proofs.Ytjdknijjkjmafaa
