/-
  DERIVED. The check sum, as a function of bytes; its half-byte steps.
-/
import Derived.Test.YtjdknijjkjmafaaRows
namespace Go.Proofs.SealMath
/-- One shift of the register. -/
def st (r : Nat) : Nat := if r % 2 = 1 then (r / 2) ^^^ 2197175160 else r / 2
def stN : Nat → Nat → Nat
  | 0, r => r
  | k + 1, r => stN k (st r)
theorem stN_succ (k r : Nat) : stN (k + 1) r = st (stN k r) := by
  induction k generalizing r with
  | zero => rfl
  | succ k ih => show stN (k + 1) (st r) = _; rw [ih]; rfl
theorem stN_add (a b r : Nat) : stN (a + b) r = stN b (stN a r) := by
  induction a generalizing r with
  | zero => rw [Nat.zero_add]; rfl
  | succ a ih => rw [Nat.succ_add]; show stN (a + b) (st r) = _; rw [ih]; rfl
/-- A byte goes in. -/
def rb (r c : Nat) : Nat := stN 8 (r ^^^ c)
theorem rb_def (r c : Nat) : rb r c = stN 8 (r ^^^ c) := by unfold rb; rfl
def regs (r : Nat) (l : List UInt8) : Nat := l.foldl (fun r c => rb r c.toNat) r
theorem regs_append (r : Nat) (a b : List UInt8) : regs r (a ++ b) = regs (regs r a) b := by unfold regs; rw [List.foldl_append]
theorem regs_one (r : Nat) (c : UInt8) : regs r [c] = rb r c.toNat := by unfold regs; rw [List.foldl_cons, List.foldl_nil]
theorem regs_cons (r : Nat) (c : UInt8) (l : List UInt8) : regs r (c :: l) = regs (rb r c.toNat) l := by unfold regs; rw [List.foldl_cons]
/-- The sum of a text that goes on from s. -/
def crc (s : Nat) (l : List UInt8) : Nat := regs (s ^^^ 4294967295) l ^^^ 4294967295
theorem st_lt {r : Nat} (h : r < 4294967296) : st r < 4294967296 := by
  unfold st
  split
  · exact Nat.xor_lt_two_pow (n := 32) (by omega) (by omega)
  · omega
theorem stN_lt (k : Nat) : ∀ {r : Nat}, r < 4294967296 → stN k r < 4294967296 := by
  induction k with
  | zero => intro r h; exact h
  | succ k ih => intro r h; exact ih (st_lt h)
theorem rb_lt {r c : Nat} (h : r < 4294967296) (hc : c < 256) : rb r c < 4294967296 :=
  by rw [rb_def]; exact stN_lt 8 (Nat.xor_lt_two_pow (n := 32) h (by omega))
theorem regs_lt {r : Nat} (l : List UInt8) (h : r < 4294967296) : regs r l < 4294967296 := by
  induction l generalizing r with
  | nil => exact h
  | cons c l ih => rw [regs_cons]; exact ih (rb_lt h c.toNat_lt)
theorem flip_lt {r : Nat} (h : r < 4294967296) : r ^^^ 4294967295 < 4294967296 := Nat.xor_lt_two_pow (n := 32) h (by omega)
theorem crc_lt {s : Nat} (l : List UInt8) (h : s < 4294967296) : crc s l < 4294967296 := flip_lt (regs_lt l (flip_lt h))
theorem flip_flip (r : Nat) : r ^^^ 4294967295 ^^^ 4294967295 = r := by rw [Nat.xor_assoc, Nat.xor_self, Nat.xor_zero]
theorem flip_sub {r : Nat} (h : r < 4294967296) : r ^^^ 4294967295 = 4294967295 - r := by
  apply Nat.eq_of_testBit_eq
  intro i
  have e : (4294967295 : Nat) - r = 2 ^ 32 - (r + 1) := by omega
  rw [e, Nat.testBit_two_pow_sub_succ (by omega), Nat.testBit_xor, show (4294967295 : Nat) = 2 ^ 32 - 1 by rfl, Nat.testBit_two_pow_sub_one]
  by_cases hi : i < 32
  · simp [hi]
  · have : r.testBit i = false := Nat.testBit_lt_two_pow (Nat.lt_of_lt_of_le (show r < 2 ^ 32 from h) (Nat.pow_le_pow_right (by decide) (Nat.not_lt.1 hi)))
    simp [hi, this]
theorem crc_append (s : Nat) (a b : List UInt8) : crc s (a ++ b) = crc (crc s a) b := by
  unfold crc; rw [flip_flip, regs_append]
theorem st_xor (a b : Nat) : st (a ^^^ b) = st a ^^^ st b := by
  unfold st
  have h2 : (a ^^^ b) / 2 = a / 2 ^^^ b / 2 := Nat.xor_div_two
  have h1 : (a ^^^ b) % 2 = (a + b) % 2 := by
    have := @Nat.xor_mod_two_eq_one a b
    by_cases h : (a ^^^ b) % 2 = 1 <;> by_cases ha : a % 2 = 1 <;> by_cases hb : b % 2 = 1 <;> simp [h, ha, hb] at this <;> omega
  rw [h1, h2]
  rcases Nat.mod_two_eq_zero_or_one a with ha | ha <;> rcases Nat.mod_two_eq_zero_or_one b with hb | hb
  · rw [if_neg (by omega), if_neg (by omega), if_neg (by omega)]
  · rw [if_pos (by omega), if_neg (by omega), if_pos (by omega), Nat.xor_assoc]
  · rw [if_pos (by omega), if_pos (by omega), if_neg (by omega), Nat.xor_assoc, Nat.xor_comm (b / 2), ← Nat.xor_assoc]
  · rw [if_neg (by omega), if_pos (by omega), if_pos (by omega)]
    have e : a / 2 ^^^ 2197175160 ^^^ (b / 2 ^^^ 2197175160) = a / 2 ^^^ b / 2 ^^^ (2197175160 ^^^ 2197175160) := by
      rw [Nat.xor_assoc, Nat.xor_assoc, Nat.xor_comm (b / 2) 2197175160, ← Nat.xor_assoc 2197175160, Nat.xor_comm _ (b / 2)]
    rw [e, Nat.xor_self, Nat.xor_zero]
theorem stN_xor (k a b : Nat) : stN k (a ^^^ b) = stN k a ^^^ stN k b := by
  induction k generalizing a b with
  | zero => rfl
  | succ k ih => show stN k (st (a ^^^ b)) = _; rw [st_xor, ih]; rfl
theorem st_two (x : Nat) : st (2 * x) = x := by unfold st; rw [if_neg (by omega)]; omega
theorem stN_pow (k x : Nat) : stN k (2 ^ k * x) = x := by
  induction k with
  | zero => show 2 ^ 0 * x = x; rw [Nat.pow_zero, Nat.one_mul]
  | succ k ih => show stN k (st _) = x; rw [Nat.pow_succ, Nat.mul_comm (2 ^ k) 2, Nat.mul_assoc, st_two, ih]
theorem cut_xor (k r : Nat) : r = (2 ^ k * (r / 2 ^ k)) ^^^ (r % 2 ^ k) := by
  apply Nat.eq_of_testBit_eq
  intro i
  rw [Nat.testBit_xor, Nat.testBit_two_pow_mul, Nat.testBit_mod_two_pow]
  by_cases h : i < k
  · simp [h, Nat.not_le.2 h]
  · rw [Nat.testBit_div_two_pow]; simp [h, Nat.not_lt.1 h]
/-- Four shifts are one look at the table. -/
theorem stN4 (r : Nat) : stN 4 r = (r / 16) ^^^ stN 4 (r % 16) := by
  have h := cut_xor 4 r
  have h2 := stN_pow 4 (r / 2 ^ 4)
  have h3 := stN_xor 4 (2 ^ 4 * (r / 2 ^ 4)) (r % 2 ^ 4)
  rw [← h, h2] at h3
  exact h3
def tabN : List Nat := [0, 274646895, 549293790, 820201905, 1098587580, 1361435347, 1640403810, 1905808397, 2197175160, 2460548119, 2722870694, 2987750089, 3280807620, 3553878443, 3811616794, 4084100981]
theorem tabN_at : ∀ i, i < 16 → tabN.getD i 0 = stN 4 i := by decide +kernel
theorem rb_two (r c : Nat) : rb r c = stN 4 (stN 4 (r ^^^ c)) := by rw [rb_def]; exact stN_add 4 4 _
end Go.Proofs.SealMath
