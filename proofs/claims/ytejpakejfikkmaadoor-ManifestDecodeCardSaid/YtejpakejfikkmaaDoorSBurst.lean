/-
  DERIVED. Bits turned within 32 change the sum.
-/
import Derived.Test.YtejpakejfikkmaaDoorSPm
namespace Go.Proofs.YtejpakejfikkmaaDoor
open Go.RowKit Go.Proofs.SealMath
theorem st_zero {r : Nat} (h : r < 4294967296) (h0 : st r = 0) : r = 0 := by
  unfold st at h0
  split at h0
  · have h1 : (r / 2 ^^^ 2197175160).testBit 31 = true := by
      rw [Nat.testBit_xor, Nat.testBit_lt_two_pow (show r / 2 < 2 ^ 31 by omega)]; decide
    rw [h0] at h1; simp at h1
  · omega
theorem stN_zero (m : Nat) : ∀ {r : Nat}, r < 4294967296 → stN m r = 0 → r = 0 := by
  induction m with
  | zero => intro r _ h; exact h
  | succ m ih => intro r h h0; exact st_zero h (ih (st_lt h) h0)
theorem stN_nil (m : Nat) : stN m 0 = 0 := by
  induction m with
  | zero => rfl
  | succ m ih => exact ih
/-- A burst: not told by no number of shifts. -/
theorem burst (m j q : Nat) (hq : q < 4294967296) (h : stN m (2 ^ j * q) = 0) : 2 ^ j * q = 0 := by
  by_cases hm : j ≤ m
  · obtain ⟨d, rfl⟩ : ∃ d, m = j + d := ⟨m - j, by omega⟩
    rw [stN_add, stN_pow] at h
    rw [stN_zero d hq h, Nat.mul_zero]
  · obtain ⟨d, rfl⟩ : ∃ d, j = m + d := ⟨j - m, by omega⟩
    rw [Nat.pow_add, Nat.mul_assoc, stN_pow] at h
    rw [Nat.pow_add, Nat.mul_assoc, h, Nat.mul_zero]
theorem burst_mod (m M j q : Nat) (hq : q < 4294967296) (h : stN m (2 ^ j * q % 2 ^ M) = 0) : 2 ^ j * q % 2 ^ M = 0 := by
  by_cases hj : j ≤ M
  · obtain ⟨d, rfl⟩ : ∃ d, M = j + d := ⟨M - j, by omega⟩
    rw [Nat.pow_add, Nat.mul_mod_mul_left] at h ⊢
    exact burst m j _ (Nat.lt_of_le_of_lt (Nat.mod_le _ _) hq) h
  · obtain ⟨d, rfl⟩ : ∃ d, j = M + d := ⟨j - M, by omega⟩
    rw [Nat.pow_add, Nat.mul_assoc, Nat.mul_mod_right]
theorem burst_div (m M j q : Nat) (hq : q < 4294967296) (h : stN m (2 ^ j * q / 2 ^ M) = 0) : 2 ^ j * q / 2 ^ M = 0 := by
  by_cases hj : j ≤ M
  · obtain ⟨d, rfl⟩ : ∃ d, M = j + d := ⟨M - j, by omega⟩
    rw [Nat.pow_add, Nat.mul_div_mul_left _ _ (Nat.two_pow_pos j)] at h ⊢
    have := burst m 0 (q / 2 ^ d) (Nat.lt_of_le_of_lt (Nat.div_le_self _ _) hq) (by rw [Nat.pow_zero, Nat.one_mul]; exact h)
    rwa [Nat.pow_zero, Nat.one_mul] at this
  · obtain ⟨d, rfl⟩ : ∃ d, j = M + d := ⟨j - M, by omega⟩
    rw [Nat.pow_add, Nat.mul_assoc, Nat.mul_div_cancel_left _ (Nat.two_pow_pos M)] at h ⊢
    exact burst m d q hq h
/-- A text as one number, its first byte the lowest. -/
def leN : List UInt8 → Nat
  | [] => 0
  | c :: l => c.toNat + 256 * leN l
theorem le_xor (c m : Nat) (hc : c < 256) : c + 256 * m = (256 * m) ^^^ c := by
  have h := cut_xor 8 (c + 256 * m)
  rw [show (c + 256 * m) / 2 ^ 8 = m by omega, show (c + 256 * m) % 2 ^ 8 = c by omega] at h
  exact h
theorem leN_lt (l : List UInt8) : leN l < 2 ^ (8 * l.length) := by
  induction l with
  | nil => exact Nat.one_pos
  | cons c l ih =>
    have hc := c.toNat_lt
    have e : 2 ^ (8 * (c :: l).length) = 256 * 2 ^ (8 * l.length) := by rw [List.length_cons, Nat.mul_add, Nat.pow_add, Nat.mul_comm]
    rw [leN, e]; omega
theorem regs_le (l : List UInt8) : ∀ r, regs r l = stN (8 * l.length) (r ^^^ leN l) := by
  induction l with
  | nil => intro r; show r = r ^^^ 0; rw [Nat.xor_zero]
  | cons c l ih =>
    intro r
    rw [regs_cons, ih, List.length_cons, Nat.mul_add, Nat.add_comm (8 * l.length), stN_add, leN, le_xor _ _ c.toNat_lt, Nat.xor_comm (256 * leN l), ← Nat.xor_assoc, stN_xor 8 (r ^^^ c.toNat), show (256 : Nat) = 2 ^ 8 from rfl, stN_pow, rb_def]
theorem leN_inj : ∀ (l m : List UInt8), l.length = m.length → leN l = leN m → l = m
  | [], [], _, _ => rfl
  | c :: l, d :: m, h, e => by
    have hc := c.toNat_lt; have hd := d.toNat_lt
    rw [leN, leN] at e
    have e1 : c.toNat = d.toNat := by omega
    have e2 : leN l = leN m := by omega
    rw [UInt8.toNat_inj.1 e1, leN_inj l m (by simpa using h) e2]
theorem leN_take (l : List UInt8) : ∀ n, leN (l.take n) = leN l % 2 ^ (8 * n) := by
  induction l with
  | nil => intro n; rw [List.take_nil]; exact (Nat.zero_mod _).symm
  | cons c l ih =>
    intro n
    cases n with
    | zero => show 0 = _; rw [Nat.mul_zero, Nat.pow_zero, Nat.mod_one]
    | succ n =>
      have hc := c.toNat_lt
      have e : 2 ^ (8 * (n + 1)) = 256 * 2 ^ (8 * n) := by rw [Nat.mul_add, Nat.pow_add, Nat.mul_comm]
      rw [List.take_succ_cons, leN, leN, ih, e, Nat.mod_mul, show (c.toNat + 256 * leN l) % 256 = c.toNat by omega, show (c.toNat + 256 * leN l) / 256 = leN l by omega]
theorem leN_drop (l : List UInt8) : ∀ n, leN (l.drop n) = leN l / 2 ^ (8 * n) := by
  induction l with
  | nil => intro n; rw [List.drop_nil]; exact (Nat.zero_div _).symm
  | cons c l ih =>
    intro n
    cases n with
    | zero => rw [Nat.mul_zero, Nat.pow_zero, Nat.div_one]; rfl
    | succ n =>
      have hc := c.toNat_lt
      have e : 2 ^ (8 * (n + 1)) = 256 * 2 ^ (8 * n) := by rw [Nat.mul_add, Nat.pow_add, Nat.mul_comm]
      rw [List.drop_succ_cons, leN, ih, e, ← Nat.div_div_eq_div_mul, show (c.toNat + 256 * leN l) / 256 = leN l by omega]
theorem leN_low (s : Nat) (hs : s < 4294967296) : leN (lowL s) = s := by
  simp only [lowL, leN, u8n]; omega
theorem leN_set : ∀ (l : List UInt8) (j i : Nat) (c : UInt8), j < l.length → i < 8 → c.toNat = (l.getD j 0).toNat ^^^ 2 ^ i → leN (l.set j c) = leN l ^^^ 2 ^ (8 * j + i)
  | [], j, i, c, h, _, _ => by simp at h
  | d :: l, 0, i, c, _, hi, hc => by
    have hd := d.toNat_lt
    have hcl := c.toNat_lt
    rw [show ((d :: l).getD 0 0) = d from rfl] at hc
    rw [List.set_cons_zero, leN, leN, le_xor _ _ hcl, le_xor _ _ hd, hc, Nat.mul_zero, Nat.zero_add, Nat.xor_assoc]
  | d :: l, j + 1, i, c, h, hi, hc => by
    have hd := d.toNat_lt
    rw [List.set_cons_succ, leN, leN, leN_set l j i c (by simpa using h) hi hc, le_xor _ _ hd, le_xor _ _ hd]
    have e : 256 * (leN l ^^^ 2 ^ (8 * j + i)) = 256 * leN l ^^^ 2 ^ (8 * (j + 1) + i) := by
      have h1 := Nat.shiftLeft_xor_distrib (a := leN l) (b := 2 ^ (8 * j + i)) (i := 8)
      rw [Nat.shiftLeft_eq, Nat.shiftLeft_eq, Nat.shiftLeft_eq] at h1
      rw [show (256 : Nat) = 2 ^ 8 from rfl, Nat.mul_comm, h1, Nat.mul_comm, ← Nat.pow_add, show 8 * j + i + 8 = 8 * (j + 1) + i by omega]
    rw [e, Nat.xor_assoc, Nat.xor_assoc, Nat.xor_comm (2 ^ (8 * (j + 1) + i))]
/-- Two texts of one length, that many bits apart: their sums are apart too. -/
theorem regs_apart (r : Nat) (l m : List UInt8) (D : Nat) (hl : m.length = l.length) (hD : leN m = leN l ^^^ D) : regs r m = regs r l ^^^ stN (8 * l.length) D := by
  rw [regs_le, regs_le, hl, hD, ← Nat.xor_assoc, stN_xor]
theorem xor_eq_zero {a b : Nat} (h : a = a ^^^ b) : b = 0 := by
  have := congrArg (fun x => a ^^^ x) h
  simpa [← Nat.xor_assoc] using this.symm
theorem crc_apart (l m : List UInt8) (j q : Nat) (hq : q < 4294967296) (h0 : q ≠ 0) (hl : m.length = l.length) (hD : leN m = leN l ^^^ (2 ^ j * q)) : crc 0 m ≠ crc 0 l := by
  intro e
  have e1 : regs (0 ^^^ 4294967295) m = regs (0 ^^^ 4294967295) l := by
    unfold crc at e
    have := congrArg (fun x => x ^^^ 4294967295) e
    simpa only [SealMath.flip_flip] using this
  rw [regs_apart _ l m _ hl hD] at e1
  have := burst _ _ _ hq (xor_eq_zero e1.symm)
  have hp := Nat.two_pow_pos j
  rcases Nat.mul_eq_zero.1 this with h | h <;> omega
/-- A text with its own sum behind it. -/
theorem own_sum (l : List UInt8) : regs 4294967295 (l ++ lowL (crc 0 l)) = stN 32 4294967295 := by
  rw [regs_append, regs_le, leN_low _ (crc_lt _ (by omega)), lowL_len]
  have e : regs 4294967295 l ^^^ crc 0 l = 4294967295 := by
    unfold crc
    rw [Nat.zero_xor, ← Nat.xor_assoc, Nat.xor_self, Nat.zero_xor]
  rw [e]
theorem hdL_inj (k k' n n' : Nat) (hn : n < 4294967296) (hn' : n' < 4294967296) (h : hdL k' n' = hdL k n) : n' = n := by
  unfold hdL at h
  have h1 := (List.cons.inj (List.cons.inj h).2).2
  rw [← num_fix n' hn', h1, num_fix n hn]
/-- A spoilt frame is refused. -/
theorem spoilt (k : Nat) (p T y : List UInt8) (j q : Nat) (b : ByteArray) (hp : p.length ≤ 65536) (hq : q < 4294967296) (h0 : q ≠ 0) (hT : T.length = (frL k p).length) (hD : leN T = leN (frL k p) ^^^ (2 ^ j * q)) (hb : b.data.toList = T ++ y) :
    (psA b 0).2.2.2 ≠ 0 := by
  intro h
  obtain ⟨k', p', _, _, hp', hsz, _, hsub⟩ := psA_yes b 0 h
  have hlen := frL_len k p
  have hd := hdL_len k p.length
  have hd' := hdL_len k' p'.length
  have hbs : b.size = T.length + y.length := by rw [ba_size, hb, List.length_append]
  -- the first ten bytes
  have s10 : (frL k p).take 10 = hdL k p.length ++ lowL (crc 0 (hdL k p.length)) := by
    unfold frL
    rw [List.append_assoc, List.take_append_of_le_length (by simp [hd, lowL_len]), List.take_of_length_le (by simp [hd, lowL_len])]
  have t10 : T.take 10 = hdL k' p'.length ++ lowL (crc 0 (hdL k' p'.length)) := by
    have h1 := sub_part b 0 _ 0 10 _ hsub (by omega)
    have h2 : sub b (0 + 0) 10 = T.take 10 := by
      unfold sub; rw [hb, List.drop_zero, List.take_append_of_le_length (by omega)]
    rw [← h2, h1, List.drop_zero]; unfold frL
    rw [List.append_assoc, List.take_append_of_le_length (by simp [hd', lowL_len]), List.take_of_length_le (by simp [hd', lowL_len])]
  have d10 : leN (T.take 10) = leN ((frL k p).take 10) ^^^ (2 ^ j * q % 2 ^ 80) := by
    rw [leN_take, leN_take, hD, Nat.xor_mod_two_pow]
  have l10 : ((frL k p).take 10).length = 10 := by rw [List.length_take]; omega
  have m10 : (T.take 10).length = 10 := by rw [List.length_take]; omega
  have r10 := regs_apart 4294967295 _ _ _ (m10.trans l10.symm) d10
  have z10 : 2 ^ j * q % 2 ^ 80 = 0 := by
    rw [t10, s10, own_sum, own_sum] at r10
    exact burst_mod _ 80 j q hq (xor_eq_zero r10)
  rw [z10, Nat.xor_zero] at d10
  have same := leN_inj _ _ (m10.trans l10.symm) d10
  rw [t10, s10] at same
  have hhd : hdL k' p'.length = hdL k p.length := by
    have := congrArg (List.take 6) same
    rwa [List.take_append_of_le_length (by omega), List.take_append_of_le_length (by omega), List.take_of_length_le (by omega), List.take_of_length_le (by omega)] at this
  have hpn := hdL_inj k k' p.length p'.length (by omega) (by omega) hhd
  -- the payload and its sum
  have sd : (frL k p).drop 10 = p ++ lowL (crc 0 (hdL k p.length ++ p)) := by
    unfold frL
    rw [List.append_assoc, List.drop_append_of_le_length (by simp [hd, lowL_len]), List.drop_of_length_le (by simp [hd, lowL_len]), List.nil_append]
  have td : T.drop 10 = p' ++ lowL (crc 0 (hdL k p.length ++ p')) := by
    have h2 : sub b 0 (p'.length + 14) = T := by
      unfold sub; rw [hb, List.drop_zero, List.take_append_of_le_length (by omega), List.take_of_length_le (by omega)]
    rw [← h2, hsub]; unfold frL
    rw [hhd, List.append_assoc, List.drop_append_of_le_length (by simp [hd, lowL_len]), List.drop_of_length_le (by simp [hd, lowL_len]), List.nil_append]
  have dd : leN (T.drop 10) = leN ((frL k p).drop 10) ^^^ (2 ^ j * q / 2 ^ 80) := by
    rw [leN_drop, leN_drop, hD, Nat.xor_div_two_pow]
  have rd := regs_apart (regs 4294967295 (hdL k p.length)) _ _ _ (by rw [List.length_drop, List.length_drop, hT]) dd
  have zd : 2 ^ j * q / 2 ^ 80 = 0 := by
    rw [td, sd, ← regs_append, ← regs_append, ← List.append_assoc, ← List.append_assoc, own_sum, own_sum] at rd
    exact burst_div _ 80 j q hq (xor_eq_zero rd)
  have hz : 2 ^ j * q = 0 := by
    have := Nat.div_add_mod (2 ^ j * q) (2 ^ 80)
    rw [zd, z10] at this; omega
  have hpz := Nat.two_pow_pos j
  rcases Nat.mul_eq_zero.1 hz with h | h <;> omega
end Go.Proofs.YtejpakejfikkmaaDoor
