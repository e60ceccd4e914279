/-
  DERIVED. Numbers in so many bytes: Fix; the document's own.
-/
import Derived.Test.YtjdknijjkjmafaaSFix
namespace Go.Proofs.Ytjdknijjkjmafaa
open Go.RowKit Go.Proofs.SealMath
theorem isPlace_any (b : ByteArray) (p : Int) (w : World) :
    Calls Try.prog 81 #[.string b, .int .i64 p] w fun e w' => e = .returned (.bool (decide (0 ≤ p ∧ p ≤ b.size))) ∧ w' = w := by
  by_cases h1 : 0 ≤ p
  · by_cases h2 : p ≤ (b.size : Int)
    · go_enter Try.func81, Try.ntmps81
      go_wp2
      go_ret
      exact ⟨ret_bool (by simp [h1, h2]), rfl⟩
    · go_enter Try.func81, Try.ntmps81
      go_wp2
      go_ret
      exact ⟨ret_bool (by simp [h2]), rfl⟩
  · go_enter Try.func81, Try.ntmps81
    go_wp2
    go_ret
    exact ⟨ret_bool (by rw [decide_eq_false (show ¬ 0 ≤ p by omega)]; rfl), rfl⟩
theorem or_add (v c : Nat) (hc : c < 256) : v * 256 ||| c = 256 * v + c := by
  have := Nat.two_pow_add_eq_or_of_lt (i := 8) (b := c) (by omega) v
  rw [Nat.mul_comm v 256]; exact this.symm
theorem numL_bound (b : ByteArray) (a n m : Nat) (h : a + n ≤ b.size) (hm : n ≤ m) (h8 : m ≤ 8) : numL (sub b a n) < 18446744073709551616 := by
  have := numL_sub_lt b a n 8 h (by omega); simpa using this
/-- What Fix answers. -/
def fxE (b : ByteArray) (p n : Int) : Int := if 1 ≤ n ∧ n ≤ 8 then if 0 ≤ p ∧ p ≤ b.size then if n ≤ b.size - p then 0 else 31 else 13 else 13
def fxV (b : ByteArray) (p n : Int) : Nat := if fxE b p n = 0 then numL (sub b p.toNat n.toNat) else 0
theorem fxE_ok {b : ByteArray} {p n : Int} (h : 1 ≤ n ∧ n ≤ 8) (k : 0 ≤ p ∧ p ≤ b.size) (l : n ≤ b.size - p) : fxE b p n = 0 := by unfold fxE; rw [if_pos h, if_pos k, if_pos l]
theorem fxE_31 {b : ByteArray} {p n : Int} (h : 1 ≤ n ∧ n ≤ 8) (k : 0 ≤ p ∧ p ≤ b.size) (l : ¬ n ≤ b.size - p) : fxE b p n = 31 := by unfold fxE; rw [if_pos h, if_pos k, if_neg l]
theorem fxE_13 {b : ByteArray} {p n : Int} (h : 1 ≤ n ∧ n ≤ 8) (k : ¬ (0 ≤ p ∧ p ≤ b.size)) : fxE b p n = 13 := by unfold fxE; rw [if_pos h, if_neg k]
theorem fxE_13' {b : ByteArray} {p n : Int} (h : ¬ (1 ≤ n ∧ n ≤ 8)) : fxE b p n = 13 := by unfold fxE; rw [if_neg h]
theorem fixL_take (v n j : Nat) (h : j < n) : (fixL v n).take (j + 1) = (fixL v n).take j ++ [UInt8.ofNat (fxB v n j)] := by
  rw [List.take_succ_eq_append_getElem (by rw [fixL_len]; exact h), fixL_at v n j h]
end Go.Proofs.Ytjdknijjkjmafaa
