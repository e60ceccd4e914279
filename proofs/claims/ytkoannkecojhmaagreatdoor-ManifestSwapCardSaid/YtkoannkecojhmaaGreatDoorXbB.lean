/-
  DERIVED. SBurst, CBack, CBack2, MLoad, KPick, CGoes, CGoes2, as one text.
-/
import Derived.Test.YtkoannkecojhmaaGreatDoorXbA
import Derived.Test.YtkoannkecojhmaaGreatDoorSBase
namespace Go.Proofs.YtkoannkecojhmaaGreatDoor
open Go.RowKit Go.Proofs.SealMath
theorem st_zero {r : Nat} (h : r < 4294967296) (h0 : st r = 0) : r = 0 := by
  unfold st at h0
  split at h0
  · have h1 : (r / 2 ^^^ 2197175160).testBit 31 = true := by
      rw [Nat.testBit_xor, Nat.testBit_lt_two_pow (show r / 2 < 2 ^ 31 by omega)]; decide
    rw [h0] at h1; simp at h1
  · omega
theorem stN_zero (m : Nat) : ∀ {r : Nat}, r < 4294967296 → stN m r = 0 → r = 0 := by
  induction m with
  | zero => intro r _ h; exact h
  | succ m ih => intro r h h0; exact st_zero h (ih (st_lt h) h0)
theorem stN_nil (m : Nat) : stN m 0 = 0 := by
  induction m with
  | zero => rfl
  | succ m ih => exact ih
/-- A burst: not told by no number of shifts. -/
theorem burst (m j q : Nat) (hq : q < 4294967296) (h : stN m (2 ^ j * q) = 0) : 2 ^ j * q = 0 := by
  by_cases hm : j ≤ m
  · obtain ⟨d, rfl⟩ : ∃ d, m = j + d := ⟨m - j, by omega⟩
    rw [stN_add, stN_pow] at h
    rw [stN_zero d hq h, Nat.mul_zero]
  · obtain ⟨d, rfl⟩ : ∃ d, j = m + d := ⟨j - m, by omega⟩
    rw [Nat.pow_add, Nat.mul_assoc, stN_pow] at h
    rw [Nat.pow_add, Nat.mul_assoc, h, Nat.mul_zero]
theorem burst_mod (m M j q : Nat) (hq : q < 4294967296) (h : stN m (2 ^ j * q % 2 ^ M) = 0) : 2 ^ j * q % 2 ^ M = 0 := by
  by_cases hj : j ≤ M
  · obtain ⟨d, rfl⟩ : ∃ d, M = j + d := ⟨M - j, by omega⟩
    rw [Nat.pow_add, Nat.mul_mod_mul_left] at h ⊢
    exact burst m j _ (Nat.lt_of_le_of_lt (Nat.mod_le _ _) hq) h
  · obtain ⟨d, rfl⟩ : ∃ d, j = M + d := ⟨j - M, by omega⟩
    rw [Nat.pow_add, Nat.mul_assoc, Nat.mul_mod_right]
theorem burst_div (m M j q : Nat) (hq : q < 4294967296) (h : stN m (2 ^ j * q / 2 ^ M) = 0) : 2 ^ j * q / 2 ^ M = 0 := by
  by_cases hj : j ≤ M
  · obtain ⟨d, rfl⟩ : ∃ d, M = j + d := ⟨M - j, by omega⟩
    rw [Nat.pow_add, Nat.mul_div_mul_left _ _ (Nat.two_pow_pos j)] at h ⊢
    have := burst m 0 (q / 2 ^ d) (Nat.lt_of_le_of_lt (Nat.div_le_self _ _) hq) (by rw [Nat.pow_zero, Nat.one_mul]; exact h)
    rwa [Nat.pow_zero, Nat.one_mul] at this
  · obtain ⟨d, rfl⟩ : ∃ d, j = M + d := ⟨j - M, by omega⟩
    rw [Nat.pow_add, Nat.mul_assoc, Nat.mul_div_cancel_left _ (Nat.two_pow_pos M)] at h ⊢
    exact burst m d q hq h
/-- A text as one number, its first byte the lowest. -/
def leN : List UInt8 → Nat
  | [] => 0
  | c :: l => c.toNat + 256 * leN l
theorem le_xor (c m : Nat) (hc : c < 256) : c + 256 * m = (256 * m) ^^^ c := by
  have h := cut_xor 8 (c + 256 * m)
  rw [show (c + 256 * m) / 2 ^ 8 = m by omega, show (c + 256 * m) % 2 ^ 8 = c by omega] at h
  exact h
theorem leN_lt (l : List UInt8) : leN l < 2 ^ (8 * l.length) := by
  induction l with
  | nil => exact Nat.one_pos
  | cons c l ih =>
    have hc := c.toNat_lt
    have e : 2 ^ (8 * (c :: l).length) = 256 * 2 ^ (8 * l.length) := by rw [List.length_cons, Nat.mul_add, Nat.pow_add, Nat.mul_comm]
    rw [leN, e]; omega
theorem regs_le (l : List UInt8) : ∀ r, regs r l = stN (8 * l.length) (r ^^^ leN l) := by
  induction l with
  | nil => intro r; show r = r ^^^ 0; rw [Nat.xor_zero]
  | cons c l ih =>
    intro r
    rw [regs_cons, ih, List.length_cons, Nat.mul_add, Nat.add_comm (8 * l.length), stN_add, leN, le_xor _ _ c.toNat_lt, Nat.xor_comm (256 * leN l), ← Nat.xor_assoc, stN_xor 8 (r ^^^ c.toNat), show (256 : Nat) = 2 ^ 8 from rfl, stN_pow, rb_def]
theorem leN_inj : ∀ (l m : List UInt8), l.length = m.length → leN l = leN m → l = m
  | [], [], _, _ => rfl
  | c :: l, d :: m, h, e => by
    have hc := c.toNat_lt; have hd := d.toNat_lt
    rw [leN, leN] at e
    have e1 : c.toNat = d.toNat := by omega
    have e2 : leN l = leN m := by omega
    rw [UInt8.toNat_inj.1 e1, leN_inj l m (by simpa using h) e2]
theorem leN_take (l : List UInt8) : ∀ n, leN (l.take n) = leN l % 2 ^ (8 * n) := by
  induction l with
  | nil => intro n; rw [List.take_nil]; exact (Nat.zero_mod _).symm
  | cons c l ih =>
    intro n
    cases n with
    | zero => show 0 = _; rw [Nat.mul_zero, Nat.pow_zero, Nat.mod_one]
    | succ n =>
      have hc := c.toNat_lt
      have e : 2 ^ (8 * (n + 1)) = 256 * 2 ^ (8 * n) := by rw [Nat.mul_add, Nat.pow_add, Nat.mul_comm]
      rw [List.take_succ_cons, leN, leN, ih, e, Nat.mod_mul, show (c.toNat + 256 * leN l) % 256 = c.toNat by omega, show (c.toNat + 256 * leN l) / 256 = leN l by omega]
theorem leN_drop (l : List UInt8) : ∀ n, leN (l.drop n) = leN l / 2 ^ (8 * n) := by
  induction l with
  | nil => intro n; rw [List.drop_nil]; exact (Nat.zero_div _).symm
  | cons c l ih =>
    intro n
    cases n with
    | zero => rw [Nat.mul_zero, Nat.pow_zero, Nat.div_one]; rfl
    | succ n =>
      have hc := c.toNat_lt
      have e : 2 ^ (8 * (n + 1)) = 256 * 2 ^ (8 * n) := by rw [Nat.mul_add, Nat.pow_add, Nat.mul_comm]
      rw [List.drop_succ_cons, leN, ih, e, ← Nat.div_div_eq_div_mul, show (c.toNat + 256 * leN l) / 256 = leN l by omega]
theorem leN_low (s : Nat) (hs : s < 4294967296) : leN (lowL s) = s := by
  simp only [lowL, leN, u8n]; omega
theorem leN_set : ∀ (l : List UInt8) (j i : Nat) (c : UInt8), j < l.length → i < 8 → c.toNat = (l.getD j 0).toNat ^^^ 2 ^ i → leN (l.set j c) = leN l ^^^ 2 ^ (8 * j + i)
  | [], j, i, c, h, _, _ => by simp at h
  | d :: l, 0, i, c, _, hi, hc => by
    have hd := d.toNat_lt
    have hcl := c.toNat_lt
    rw [show ((d :: l).getD 0 0) = d from rfl] at hc
    rw [List.set_cons_zero, leN, leN, le_xor _ _ hcl, le_xor _ _ hd, hc, Nat.mul_zero, Nat.zero_add, Nat.xor_assoc]
  | d :: l, j + 1, i, c, h, hi, hc => by
    have hd := d.toNat_lt
    rw [List.set_cons_succ, leN, leN, leN_set l j i c (by simpa using h) hi hc, le_xor _ _ hd, le_xor _ _ hd]
    have e : 256 * (leN l ^^^ 2 ^ (8 * j + i)) = 256 * leN l ^^^ 2 ^ (8 * (j + 1) + i) := by
      have h1 := Nat.shiftLeft_xor_distrib (a := leN l) (b := 2 ^ (8 * j + i)) (i := 8)
      rw [Nat.shiftLeft_eq, Nat.shiftLeft_eq, Nat.shiftLeft_eq] at h1
      rw [show (256 : Nat) = 2 ^ 8 from rfl, Nat.mul_comm, h1, Nat.mul_comm, ← Nat.pow_add, show 8 * j + i + 8 = 8 * (j + 1) + i by omega]
    rw [e, Nat.xor_assoc, Nat.xor_assoc, Nat.xor_comm (2 ^ (8 * (j + 1) + i))]
/-- Two texts of one length, that many bits apart: their sums are apart too. -/
theorem regs_apart (r : Nat) (l m : List UInt8) (D : Nat) (hl : m.length = l.length) (hD : leN m = leN l ^^^ D) : regs r m = regs r l ^^^ stN (8 * l.length) D := by
  rw [regs_le, regs_le, hl, hD, ← Nat.xor_assoc, stN_xor]
theorem xor_eq_zero {a b : Nat} (h : a = a ^^^ b) : b = 0 := by
  have := congrArg (fun x => a ^^^ x) h
  simpa [← Nat.xor_assoc] using this.symm
theorem crc_apart (l m : List UInt8) (j q : Nat) (hq : q < 4294967296) (h0 : q ≠ 0) (hl : m.length = l.length) (hD : leN m = leN l ^^^ (2 ^ j * q)) : crc 0 m ≠ crc 0 l := by
  intro e
  have e1 : regs (0 ^^^ 4294967295) m = regs (0 ^^^ 4294967295) l := by
    unfold crc at e
    have := congrArg (fun x => x ^^^ 4294967295) e
    simpa only [SealMath.flip_flip] using this
  rw [regs_apart _ l m _ hl hD] at e1
  have := burst _ _ _ hq (xor_eq_zero e1.symm)
  have hp := Nat.two_pow_pos j
  rcases Nat.mul_eq_zero.1 this with h | h <;> omega
/-- A text with its own sum behind it. -/
theorem own_sum (l : List UInt8) : regs 4294967295 (l ++ lowL (crc 0 l)) = stN 32 4294967295 := by
  rw [regs_append, regs_le, leN_low _ (crc_lt _ (by omega)), lowL_len]
  have e : regs 4294967295 l ^^^ crc 0 l = 4294967295 := by
    unfold crc
    rw [Nat.zero_xor, ← Nat.xor_assoc, Nat.xor_self, Nat.zero_xor]
  rw [e]
theorem hdL_inj (k k' n n' : Nat) (hn : n < 4294967296) (hn' : n' < 4294967296) (h : hdL k' n' = hdL k n) : n' = n := by
  unfold hdL at h
  have h1 := (List.cons.inj (List.cons.inj h).2).2
  rw [← num_fix n' hn', h1, num_fix n hn]
/-- A spoilt frame is refused. -/
theorem spoilt (k : Nat) (p T y : List UInt8) (j q : Nat) (b : ByteArray) (hp : p.length ≤ 65536) (hq : q < 4294967296) (h0 : q ≠ 0) (hT : T.length = (frL k p).length) (hD : leN T = leN (frL k p) ^^^ (2 ^ j * q)) (hb : b.data.toList = T ++ y) :
    (psA b 0).2.2.2 ≠ 0 := by
  intro h
  obtain ⟨k', p', _, _, hp', hsz, _, hsub⟩ := psA_yes b 0 h
  have hlen := frL_len k p
  have hd := hdL_len k p.length
  have hd' := hdL_len k' p'.length
  have hbs : b.size = T.length + y.length := by rw [ba_size, hb, List.length_append]
  -- the first ten bytes
  have s10 : (frL k p).take 10 = hdL k p.length ++ lowL (crc 0 (hdL k p.length)) := by
    unfold frL
    rw [List.append_assoc, List.take_append_of_le_length (by simp [hd, lowL_len]), List.take_of_length_le (by simp [hd, lowL_len])]
  have t10 : T.take 10 = hdL k' p'.length ++ lowL (crc 0 (hdL k' p'.length)) := by
    have h1 := sub_part b 0 _ 0 10 _ hsub (by omega)
    have h2 : sub b (0 + 0) 10 = T.take 10 := by
      unfold sub; rw [hb, List.drop_zero, List.take_append_of_le_length (by omega)]
    rw [← h2, h1, List.drop_zero]; unfold frL
    rw [List.append_assoc, List.take_append_of_le_length (by simp [hd', lowL_len]), List.take_of_length_le (by simp [hd', lowL_len])]
  have d10 : leN (T.take 10) = leN ((frL k p).take 10) ^^^ (2 ^ j * q % 2 ^ 80) := by
    rw [leN_take, leN_take, hD, Nat.xor_mod_two_pow]
  have l10 : ((frL k p).take 10).length = 10 := by rw [List.length_take]; omega
  have m10 : (T.take 10).length = 10 := by rw [List.length_take]; omega
  have r10 := regs_apart 4294967295 _ _ _ (m10.trans l10.symm) d10
  have z10 : 2 ^ j * q % 2 ^ 80 = 0 := by
    rw [t10, s10, own_sum, own_sum] at r10
    exact burst_mod _ 80 j q hq (xor_eq_zero r10)
  rw [z10, Nat.xor_zero] at d10
  have same := leN_inj _ _ (m10.trans l10.symm) d10
  rw [t10, s10] at same
  have hhd : hdL k' p'.length = hdL k p.length := by
    have := congrArg (List.take 6) same
    rwa [List.take_append_of_le_length (by omega), List.take_append_of_le_length (by omega), List.take_of_length_le (by omega), List.take_of_length_le (by omega)] at this
  have hpn := hdL_inj k k' p.length p'.length (by omega) (by omega) hhd
  -- the payload and its sum
  have sd : (frL k p).drop 10 = p ++ lowL (crc 0 (hdL k p.length ++ p)) := by
    unfold frL
    rw [List.append_assoc, List.drop_append_of_le_length (by simp [hd, lowL_len]), List.drop_of_length_le (by simp [hd, lowL_len]), List.nil_append]
  have td : T.drop 10 = p' ++ lowL (crc 0 (hdL k p.length ++ p')) := by
    have h2 : sub b 0 (p'.length + 14) = T := by
      unfold sub; rw [hb, List.drop_zero, List.take_append_of_le_length (by omega), List.take_of_length_le (by omega)]
    rw [← h2, hsub]; unfold frL
    rw [hhd, List.append_assoc, List.drop_append_of_le_length (by simp [hd, lowL_len]), List.drop_of_length_le (by simp [hd, lowL_len]), List.nil_append]
  have dd : leN (T.drop 10) = leN ((frL k p).drop 10) ^^^ (2 ^ j * q / 2 ^ 80) := by
    rw [leN_drop, leN_drop, hD, Nat.xor_div_two_pow]
  have rd := regs_apart (regs 4294967295 (hdL k p.length)) _ _ _ (by rw [List.length_drop, List.length_drop, hT]) dd
  have zd : 2 ^ j * q / 2 ^ 80 = 0 := by
    rw [td, sd, ← regs_append, ← regs_append, ← List.append_assoc, ← List.append_assoc, own_sum, own_sum] at rd
    exact burst_div _ 80 j q hq (xor_eq_zero rd)
  have hz : 2 ^ j * q = 0 := by
    have := Nat.div_add_mod (2 ^ j * q) (2 ^ 80)
    rw [zd, z10] at this; omega
  have hpz := Nat.two_pow_pos j
  rcases Nat.mul_eq_zero.1 hz with h | h <;> omega
end Go.Proofs.YtkoannkecojhmaaGreatDoor
set_option linter.unusedVariables false
set_option linter.unusedSimpArgs false
namespace Go.Proofs.YtkoannkecojhmaaGreatDoor
open Go.RowKit Go.Proofs.SealMath
theorem sub_app (b : ByteArray) (x y z : List UInt8) (h : b.data.toList = x ++ y ++ z) : sub b x.length y.length = y := by
  unfold sub; rw [h]; simp
theorem app_place (b : ByteArray) (x y z : List UInt8) (h : b.data.toList = x ++ y ++ z) : x.length + y.length ≤ b.size := by
  have := congrArg List.length h
  rw [nm_size] at this
  simp at this; omega
theorem rd_put (b : ByteArray) (most : Nat) (hm : most ≤ 1152921504606846976) : ∀ (ns : List Nat) (x y : List UInt8), (∀ n ∈ ns, n ≤ most) → b.data.toList = x ++ ns.flatMap pv ++ y → rd b most ns.length x.length = .ok (ns, x.length + (ns.flatMap pv).length)
  | [], x, y, _, _ => rfl
  | n :: ns, x, y, hn, hb => by
    have hb' : b.data.toList = x ++ pv n ++ (ns.flatMap pv ++ y) := by rw [hb]; simp
    have h1 := sub_app b x (pv n) _ hb'
    have h2 := app_place b x (pv n) _ hb'
    have hn0 := hn n (by simp)
    have hv := vA_put b x.length n (by omega) h1 (by omega)
    have hb2 : b.data.toList = (x ++ pv n) ++ ns.flatMap pv ++ y := by rw [hb]; simp
    have ih := rd_put b most hm ns (x ++ pv n) y (fun k hk => hn k (by simp [hk])) hb2
    rw [List.length_append] at ih
    rw [List.length_cons, rd, hv]
    simp only [ne_eq, not_true_eq_false, if_false]
    rw [if_neg (by omega)]
    have e : x.length + (pvL 9 n).length = x.length + (pv n).length := rfl
    rw [e, ih]
    simp [Except.map, Nat.add_assoc]
abbrev Gr (r : Ru) : Prop := (0 ≤ r.num ∧ r.num ≤ 1152921504606846976) ∧ (0 ≤ r.lo ∧ r.lo ≤ 1152921504606846976) ∧ (0 ≤ r.hi ∧ r.hi ≤ 1152921504606846976) ∧ (0 ≤ r.cnt ∧ r.cnt ≤ 1152921504606846976)
theorem ruOf_ruN {r : Ru} (h : Gr r) : ruOf (ruN r) = r := by
  obtain ⟨a, b, c, d⟩ := r
  simp only [Gr] at h
  simp only [ruOf, ruN, List.getD_cons_zero, List.getD_cons_succ]
  congr 1 <;> omega
theorem rdRs_put (b : ByteArray) : ∀ (rs : List Ru) (x y : List UInt8), (∀ r ∈ rs, Gr r) → b.data.toList = x ++ (rs.flatMap ruN).flatMap pv ++ y → rdRs b rs.length x.length = .ok (rs, x.length + ((rs.flatMap ruN).flatMap pv).length)
  | [], x, y, _, _ => rfl
  | r :: rs, x, y, hr, hb => by
    have hb' : b.data.toList = x ++ (ruN r).flatMap pv ++ ((rs.flatMap ruN).flatMap pv ++ y) := by rw [hb]; simp [List.flatMap_append]
    have hg := hr r (by simp)
    have h1 := rd_put b 1152921504606846976 (Nat.le_refl _) (ruN r) x _ (ruN_le hg) hb'
    have hb2 : b.data.toList = (x ++ (ruN r).flatMap pv) ++ (rs.flatMap ruN).flatMap pv ++ y := by rw [hb]; simp [List.flatMap_append]
    have ih := rdRs_put b rs _ y (fun k hk => hr k (by simp [hk])) hb2
    rw [List.length_append] at ih
    rw [show (ruN r).length = 4 from rfl] at h1
    rw [List.length_cons, rdRs, h1]
    simp only
    rw [ih, ruOf_ruN hg]
    simp [Except.map, Nat.add_assoc, List.flatMap_append]
theorem unP_put {m : Mf} (h : Goes m) : unP ⟨(payL m).toArray⟩ = .ok m := by
  have hb : (⟨(payL m).toArray⟩ : ByteArray).data.toList = payL m := rfl
  generalize hB : (⟨(payL m).toArray⟩ : ByteArray) = B at hb
  have hp : payL m = (hdN m).flatMap pv ++ [m.rs.length].flatMap pv ++ (m.rs.flatMap ruN).flatMap pv := by simp [payL]
  rw [hp] at hb
  have e1 := rd_put B 1152921504606846976 (Nat.le_refl _) (hdN m) [] ([m.rs.length].flatMap pv ++ (m.rs.flatMap ruN).flatMap pv) (hdN_le h) (by rw [hb]; simp)
  have e2 := rd_put B 24 (by decide) [m.rs.length] ((hdN m).flatMap pv) ((m.rs.flatMap ruN).flatMap pv) (fun n hn => by simp at hn; rw [hn]; exact h.len) hb
  have e3 := rdRs_put B m.rs ((hdN m).flatMap pv ++ [m.rs.length].flatMap pv) [] h.rs (by rw [hb]; simp)
  rw [show (hdN m).length = 6 from rfl] at e1
  simp only [List.length_nil, Nat.zero_add] at e1
  rw [List.length_append] at e3
  unfold unP
  rw [e1]
  simp only
  rw [show ([m.rs.length] : List Nat).length = 1 from rfl] at e2
  rw [e2]
  simp only [List.getD_cons_zero]
  rw [e3]
  simp only
  rw [if_pos (by rw [← nm_size, hb, List.length_append, List.length_append])]
  have := h.w; have := h.ch; have := h.md; have := h.seq; have := h.nx; have := h.jn
  obtain ⟨a, b, c, d, e, f, rs⟩ := m
  simp only [mfOf, hdN, List.getD_cons_zero, List.getD_cons_succ]
  simp only at *
  congr 1
  congr 1 <;> omega
theorem pay_frame {m : Mf} (h : chE m = 0) : (enT m).data.toList = frL 3 (payL m) := by unfold enT; rw [if_pos h]
theorem dec_enc {m : Mf} (h : chE m = 0) (b : ByteArray) (hb : b = enT m) : dcM b = .ok m := by
  have hG := goes_of h
  have hl := pay_len hG
  have hd : b.data.toList = [] ++ frL 3 (payL m) ++ [] := by rw [hb, pay_frame h]; simp
  have hp := prA_frame b 0 3 (payL m) [] [] (by decide) (by decide) (by omega) hd rfl
  have hz : b.size = (payL m).length + 14 := by rw [← nm_size, hd]; simp [frL_len]
  have hps : psA b 0 = (3, payL m, (payL m).length + 14, 0) := by
    have := hp
    rw [show ((0 : Nat) : Int) = 0 from rfl, prA0] at this
    simpa using this
  unfold dcM dcU
  rw [hps]
  simp only [ne_eq, not_true_eq_false, if_false, hz]
  rw [unP_put hG]
  simp only
  rw [if_pos h]
theorem sub_two (b : ByteArray) (a m n : Nat) (x y : List UInt8) (h1 : sub b a m = x) (h2 : sub b (a + m) n = y) : sub b a (m + n) = x ++ y := by rw [sub_add, h1, h2]
theorem rd_only (b : ByteArray) (most : Nat) : ∀ (n a : Nat) (l : List Nat) (q : Nat), rd b most n a = .ok (l, q) → q = a + (l.flatMap pv).length ∧ sub b a (l.flatMap pv).length = l.flatMap pv
  | 0, a, l, q, h => by simp only [rd] at h; cases h; simp [sub]
  | n + 1, a, l, q, h => by
    simp only [rd] at h
    split at h
    · cases h
    · next he =>
      split at h
      · cases h
      · have hv : vA b a = ((vA b a).1, (vA b a).2.1, 0) := Prod.ext rfl (Prod.ext rfl (Classical.byContradiction he))
        obtain ⟨-, h2, h3, -⟩ := vA_only b a _ _ hv
        cases hr : rd b most n (vA b a).2.1 with
        | error e => rw [hr] at h; cases h
        | ok x =>
          obtain ⟨l', p'⟩ := x
          rw [hr] at h
          simp only [Except.map] at h
          cases h
          obtain ⟨i1, i2⟩ := rd_only b most n _ l' _ hr
          rw [h2] at i1 i2
          have e : (pv (vA b a).1) = pvL 9 (vA b a).1 := rfl
          rw [List.flatMap_cons, List.length_append, e]
          exact ⟨by rw [i1]; omega, sub_two b a _ _ _ _ h3 i2⟩
theorem ruN_ruOf (l : List Nat) (h : l.length = 4) : ruN (ruOf l) = l := by
  match l, h with
  | [a, b, c, d], _ => rfl
theorem rdRs_only (b : ByteArray) : ∀ (n a : Nat) (rs : List Ru) (q : Nat), rdRs b n a = .ok (rs, q) → q = a + ((rs.flatMap ruN).flatMap pv).length ∧ sub b a ((rs.flatMap ruN).flatMap pv).length = (rs.flatMap ruN).flatMap pv
  | 0, a, l, q, h => by simp only [rdRs] at h; cases h; simp [sub]
  | n + 1, a, rs, q, h => by
    simp only [rdRs] at h
    cases hr : rd b 1152921504606846976 4 a with
    | error e => rw [hr] at h; cases h
    | ok x =>
      obtain ⟨l, a'⟩ := x
      rw [hr] at h
      simp only at h
      cases hr2 : rdRs b n a' with
      | error e => rw [hr2] at h; cases h
      | ok y =>
        obtain ⟨rs', q'⟩ := y
        rw [hr2] at h
        simp only [Except.map] at h
        cases h
        obtain ⟨j1, j2⟩ := rd_only b _ _ _ _ _ hr
        obtain ⟨i1, i2⟩ := rdRs_only b n _ rs' _ hr2
        rw [j1] at i1 i2
        rw [List.flatMap_cons, ruN_ruOf l (rd_len hr).1, List.flatMap_append, List.length_append]
        exact ⟨by rw [i1]; omega, sub_two b a _ _ _ _ j2 i2⟩
theorem sub_whole2 (b : ByteArray) : sub b 0 b.size = b.data.toList := by unfold sub; rw [List.drop_zero, List.take_of_length_le (by rw [nm_size]; exact Nat.le_refl _)]
theorem unP_only {p : ByteArray} {m : Mf} (h : unP p = .ok m) : payL m = p.data.toList := by
  unfold unP at h
  cases h1 : rd p 1152921504606846976 6 0 with
  | error e => rw [h1] at h; cases h
  | ok x =>
    obtain ⟨hd, a1⟩ := x
    rw [h1] at h
    simp only at h
    cases h2 : rd p 24 1 a1 with
    | error e => rw [h2] at h; cases h
    | ok y =>
      obtain ⟨c, a2⟩ := y
      rw [h2] at h
      simp only at h
      cases h3 : rdRs p (c.getD 0 0) a2 with
      | error e => rw [h3] at h; cases h
      | ok z =>
        obtain ⟨rs, a3⟩ := z
        rw [h3] at h
        simp only at h
        split at h
        · next hz =>
          injection h with h
          subst h
          obtain ⟨i1, i2⟩ := rd_only p _ _ _ _ _ h1
          obtain ⟨j1, j2⟩ := rd_only p _ _ _ _ _ h2
          obtain ⟨k1, k2⟩ := rdRs_only p _ _ _ _ h3
          rw [Nat.zero_add] at i1
          rw [i1] at j1 j2
          rw [j1] at k1 k2
          have s1 := sub_two p 0 _ _ _ _ i2 (by simp only [Nat.zero_add]; exact j2)
          have s2 := sub_two p 0 _ _ _ _ s1 (by simp only [Nat.zero_add]; exact k2)
          have hl1 := (rd_len h1).1
          have hl2 := (rd_len h2).1
          have hl3 := (rdRs_ok h3).1
          have eh : hdN (mfOf hd rs) = hd := by
            match hd, hl1 with
            | [a, b, c, d, e, f], _ => rfl
          have ec : c = [rs.length] := by
            match c, hl2 with
            | [n], _ => simp only [List.getD_cons_zero] at hl3; rw [hl3]
          have er : (mfOf hd rs).rs = rs := rfl
          have et : payL (mfOf hd rs) = hd.flatMap pv ++ c.flatMap pv ++ (rs.flatMap ruN).flatMap pv := by
            unfold payL; rw [eh, er, ec]; simp
          rw [et, ← s2, ← sub_whole2 p]
          congr 1
          rw [← hz, k1]
        · cases h
theorem dec_only {b : ByteArray} {m : Mf} (h : dcM b = .ok m) : chE m = 0 ∧ b = enT m := by
  unfold dcM at h
  cases hU : dcU b with
  | error e => rw [hU] at h; cases h
  | ok mu =>
    rw [hU] at h
    simp only at h
    split at h
    · next hc =>
      injection h with h
      subst h
      refine ⟨hc, ?_⟩
      unfold dcU at hU
      split at hU
      · cases hU
      · next h1 =>
        split at hU
        · cases hU
        · next h2 =>
          split at hU
          · cases hU
          · next h3 =>
            have hp := unP_only hU
            obtain ⟨k, p, k1, k2, k3, k4, k5, k6⟩ := psA_yes b 0 (Classical.byContradiction h1)
            rw [k5] at h2 h3 hp
            simp only [ne_eq, Classical.not_not] at h2 h3 hp
            apply ba_ext
            rw [pay_frame hc, hp, ← h3, ← k6, ← sub_whole2 b]
            congr 1
            omega
    · cases h
/-- Another text of the same length that is apart in one byte is told. -/
theorem dec_spoilt {m : Mf} (h : chE m = 0) (b : ByteArray) (T : List UInt8) (j q : Nat) (hq : q < 4294967296) (h0 : q ≠ 0) (hT : T.length = (frL 3 (payL m)).length) (hD : leN T = leN (frL 3 (payL m)) ^^^ (2 ^ j * q)) (hb : b.data.toList = T) : ∃ e, dcM b = .error e ∧ e ≠ 0 := by
  have hl := pay_len (goes_of h)
  have hs := spoilt 3 (payL m) T [] j q b (by omega) hq h0 hT hD (by rw [hb]; simp)
  refine ⟨(psA b 0).2.2.2, ?_, hs⟩
  unfold dcM dcU
  rw [if_pos hs]
/-- More bytes behind. -/
theorem dec_more {m : Mf} (h : chE m = 0) (b : ByteArray) (y : List UInt8) (hy : y ≠ []) (hb : b.data.toList = frL 3 (payL m) ++ y) : dcM b = .error 37 := by
  have hl := pay_len (goes_of h)
  have hp := prA_frame b 0 3 (payL m) [] y (by decide) (by decide) (by omega) (by rw [hb]; simp) rfl
  have hps : psA b 0 = (3, payL m, (payL m).length + 14, 0) := by
    have := hp
    rw [show ((0 : Nat) : Int) = 0 from rfl, prA0] at this
    simpa using this
  have hz : b.size = (payL m).length + 14 + y.length := by rw [← nm_size, hb]; simp [frL_len]
  have hy' : 0 < y.length := List.length_pos_iff.2 hy
  unfold dcM dcU
  rw [hps]
  simp only [ne_eq, not_true_eq_false, if_false]
  rw [if_pos (by omega)]
/-- Fewer bytes. -/
theorem dec_less {m : Mf} (h : chE m = 0) (b : ByteArray) (k : Nat) (hk : k < (frL 3 (payL m)).length) (hb : b.data.toList = (frL 3 (payL m)).take k) : ∃ e, dcM b = .error e ∧ e ≠ 0 := by
  cases hd : dcM b with
  | error e =>
    refine ⟨e, rfl, ?_⟩
    unfold dcM at hd
    cases hU : dcU b with
    | error e' => rw [hU] at hd; cases hd; exact dcU_err hU
    | ok mu =>
      rw [hU] at hd
      simp only at hd
      split at hd
      · cases hd
      · next hc => cases hd; exact hc
  | ok m' =>
    exfalso
    obtain ⟨h1, h2⟩ := dec_only hd
    rw [h2, pay_frame h1] at hb
    have hl := pay_len (goes_of h)
    have hl' := pay_len (goes_of h1)
    have e1 := congrArg List.length hb
    rw [List.length_take, frL_len, frL_len] at e1
    rw [frL_len] at hk
    have e2 : (frL 3 (payL m')).take 6 = (frL 3 (payL m)).take 6 := by
      rw [hb, List.take_take]
      congr 1
      omega
    have e3 : ∀ p : List UInt8, (frL 3 p).take 6 = hdL 3 p.length := fun p => by
      unfold frL
      rw [List.append_assoc, List.append_assoc, List.take_append_of_le_length (by rw [hdL_len]; omega), List.take_of_length_le (by rw [hdL_len]; omega)]
    rw [e3, e3] at e2
    have := hdL_inj 3 3 (payL m).length (payL m').length (by omega) (by omega) e2
    omega
end Go.Proofs.YtkoannkecojhmaaGreatDoor
set_option linter.unusedVariables false
set_option linter.unusedSimpArgs false
namespace Go.Proofs.YtkoannkecojhmaaGreatDoor
open Go.RowKit Go.Proofs.SealMath
theorem leN_xor : ∀ (l : List UInt8) (j : Nat) (c y : UInt8), j < l.length → c.toNat = (l.getD j 0).toNat ^^^ y.toNat → leN (l.set j c) = leN l ^^^ (2 ^ (8 * j) * y.toNat)
  | [], j, c, y, h, _ => by simp at h
  | d :: l, 0, c, y, _, hc => by
    have hd := d.toNat_lt
    have hcl := c.toNat_lt
    rw [show ((d :: l).getD 0 0) = d from rfl] at hc
    rw [List.set_cons_zero, leN, leN, le_xor _ _ hcl, le_xor _ _ hd, hc, Nat.mul_zero, Nat.pow_zero, Nat.one_mul, Nat.xor_assoc]
  | d :: l, j + 1, c, y, h, hc => by
    have hd := d.toNat_lt
    rw [List.set_cons_succ, leN, leN, leN_xor l j c y (by simpa using h) hc, le_xor _ _ hd, le_xor _ _ hd]
    have e : 256 * (leN l ^^^ 2 ^ (8 * j) * y.toNat) = 256 * leN l ^^^ 2 ^ (8 * (j + 1)) * y.toNat := by
      have h1 := Nat.shiftLeft_xor_distrib (a := leN l) (b := 2 ^ (8 * j) * y.toNat) (i := 8)
      rw [Nat.shiftLeft_eq, Nat.shiftLeft_eq, Nat.shiftLeft_eq] at h1
      rw [show (256 : Nat) = 2 ^ 8 from rfl, Nat.mul_comm, h1, Nat.mul_comm, Nat.mul_right_comm, ← Nat.pow_add, show 8 * j + 8 = 8 * (j + 1) by omega]
    rw [e, Nat.xor_assoc, Nat.xor_assoc, Nat.xor_comm (2 ^ (8 * (j + 1)) * y.toNat)]
theorem mfw_of {m : Mf} (h : chE m = 0) : MfW m := by
  have g := goes_of h
  have a1 := g.w
  have a2 := g.ch
  have a3 := g.md
  have a4 := g.seq
  have a5 := g.nx
  have a6 := g.jn
  refine ⟨by omega, by omega, by omega, by omega, by omega, by omega, fun r hr => ?_⟩
  have := g.rs r hr
  omega
theorem enT_size {m : Mf} (h : chE m = 0) : (enT m).size = (payL m).length + 14 := by
  rw [← nm_size, pay_frame h, frL_len]
/-- The text with its byte at k changed. -/
theorem dec_one {m : Mf} (h : chE m = 0) (b : ByteArray) (k : Nat) (c y : UInt8) (hk : k < (enT m).size) (hc : c = (enT m).data.toList.getD k 0 ^^^ y) (hb : b.data.toList = (enT m).data.toList.take k ++ c :: (enT m).data.toList.drop (k + 1)) :
    (y = 0 → dcM b = .ok m) ∧ (y ≠ 0 → ∃ e, dcM b = .error e ∧ e ≠ 0) := by
  have hk' : k < (enT m).data.toList.length := by rw [nm_size]; exact hk
  have hs : (enT m).data.toList.take k ++ c :: (enT m).data.toList.drop (k + 1) = (enT m).data.toList.set k c := (List.set_eq_take_append_cons_drop.trans (if_pos hk')).symm
  rw [hs] at hb
  constructor
  · rintro rfl
    refine dec_enc h b (ba_ext ?_)
    rw [hb, hc, UInt8.xor_zero, show (enT m).data.toList.getD k 0 = (enT m).data.toList[k] by simp [List.getD_eq_getElem?_getD, List.getElem?_eq_getElem hk'], List.set_getElem_self]
  · intro hy
    have hy0 : y.toNat ≠ 0 := fun e => hy (UInt8.toNat_inj.1 e)
    have hyl := y.toNat_lt
    rw [pay_frame h] at hb hk' hc
    exact dec_spoilt h b _ (8 * k) y.toNat (by omega) hy0 (by rw [List.length_set]) (leN_xor _ k c y hk' (by rw [hc, UInt8.toNat_xor])) hb
theorem dec_err {b : ByteArray} {e : Int} (hd : dcM b = .error e) : e ≠ 0 := by
  unfold dcM at hd
  cases hU : dcU b with
  | error e' => rw [hU] at hd; cases hd; exact dcU_err hU
  | ok mu =>
    rw [hU] at hd
    simp only at hd
    split at hd
    · cases hd
    · next hc => cases hd; exact hc
end Go.Proofs.YtkoannkecojhmaaGreatDoor
set_option linter.unusedVariables false
set_option linter.unusedSimpArgs false
namespace Go.Proofs.YtkoannkecojhmaaGreatDoor
open Go.RowKit Go.Shelf Go.Maps Go.Proofs.DiskMath
/-- What Load reads. -/
def ldF (fs : List Fl) (c : Ctl) : Except Int Mf :=
  if fdF fs c nMan ≠ 0 then .error (fdF fs c nMan) else match findF fs nMan with
  | none => .error 42
  | some f => match dcM ⟨f.da.toArray⟩ with
    | .ok m => .ok m
    | .error _ => .error 80
theorem size_da (l : List UInt8) : (⟨l.toArray⟩ : ByteArray).size = l.length := rfl
set_option maxHeartbeats 4000000 in
set_option maxRecDepth 100000 in
theorem mload_any {p mb : Nat} {es : List Ent} {c : Ctl} (w : World) (h : DK w p mb es c) (ht : Tab w) (hg : 0 < w.heap.size) :
    Calls Tryz.prog 12 #[Pt p] w (DeR w (ldF (es.map fl) c)) := by
  obtain ⟨W1, hW1⟩ : ∃ W1, W1 = w.alloc (.cells #[.int .i64 0, .int .i64 0, .int .i64 0, .int .i64 0, .int .i64 0, .int .i64 0, .slice none 0 0] 26) := ⟨_, rfl⟩
  have b1 : Below w.heap.size w W1 := by rw [hW1]; exact (Below.refl _ w).alloc (Nat.le_refl _) _
  have s1 : W1.heap.size = w.heap.size + 1 := by rw [hW1]; simp
  have hH : W1.heap[w.heap.size]? = some (.cells #[.int .i64 0, .int .i64 0, .int .i64 0, .int .i64 0, .int .i64 0, .int .i64 0, .slice none 0 0] 26 (0, 0)) := by rw [hW1]; exact heap_alloc_new w _
  have h1 := h.below b1
  obtain ⟨E, hE⟩ : ∃ E, E = fdE es c nMan := ⟨_, rfl⟩
  obtain ⟨X, hX⟩ : ∃ X, X = ldF (es.map fl) c := ⟨_, rfl⟩
  rw [← hX]
  have HX := Hid.mk (And.intro hX (And.intro hE (And.intro ht (And.intro hg (And.intro h (And.intro b1 (And.intro s1 hH)))))))
  have HW := Hid.mk hW1
  have HD := Hid.mk h1
  have ZZ : ∀ (W : World), W1.heap.size ≤ W.heap.size → W.heap[w.heap.size]? = W1.heap[w.heap.size]? → (W.cell? ⟨w.heap.size, 0, none⟩ = some (.int .i64 0) ∧ W.cell? ⟨w.heap.size, 1, none⟩ = some (.int .i64 0) ∧ W.cell? ⟨w.heap.size, 2, none⟩ = some (.int .i64 0) ∧ W.cell? ⟨w.heap.size, 3, none⟩ = some (.int .i64 0) ∧ W.cell? ⟨w.heap.size, 4, none⟩ = some (.int .i64 0) ∧ W.cell? ⟨w.heap.size, 5, none⟩ = some (.int .i64 0) ∧ W.cell? ⟨w.heap.size, 6, none⟩ = some (.slice none 0 0)) ∧ ∀ k, W.frozen? ⟨w.heap.size, k, none⟩ = false := fun W _ hb => by
    rw [HX.out.2.2.2.2.2.2.2] at hb
    exact ⟨by simp [World.cell?, hb], fun k => by simp [World.frozen?, hb]⟩
  have HZ := Hid.mk ZZ
  clear hX hE ht hg h b1 s1 hH hW1 ZZ
  go_enter Tryz.func12, Tryz.ntmps12
  go_wp2_with fail
  rw [← HW.out]
  refine size_any tMan W1 h1 _ (fun hk => ?_) (fun e0 hf hk => ?_)
  · rw [tMan_l, ← HX.out.2.1] at hk ⊢
    obtain ⟨⟨e0, e1, e2, e3, e4, e5, e6⟩, fz⟩ := HZ.out W1 (Nat.le_refl _) rfl
    have f0 := fz 0
    have f1 := fz 1
    have f2 := fz 2
    have f3 := fz 3
    have f4 := fz 4
    have f5 := fz 5
    have f6 := fz 6
    have d0 : (E != 0) = true := by simpa using hk
    have hX : X = .error E := by
      rw [HX.out.1]; unfold ldF
      rw [fl_fd, ← HX.out.2.1, if_pos hk]
    have HXE := Hid.mk hX
    clear fz hk hX h1 HD
    go_wp2
    refine bodyPost_ret (v := .tuple #[.agg #[.int .i64 0, .int .i64 0, .int .i64 0, .int .i64 0, .int .i64 0, .int .i64 0, .slice none 0 0], .int .i64 E]) (by simp [results, Tryz.results12, go_sem, e0, e1, e2, e3, e4, e5, e6]; try rfl) rfl ?_
    have bS : Below w.heap.size w (((((((W1.setCell ⟨w.heap.size, 0, none⟩ (.int .i64 0)).setCell ⟨w.heap.size, 1, none⟩ (.int .i64 0)).setCell ⟨w.heap.size, 2, none⟩ (.int .i64 0)).setCell ⟨w.heap.size, 3, none⟩ (.int .i64 0)).setCell ⟨w.heap.size, 4, none⟩ (.int .i64 0)).setCell ⟨w.heap.size, 5, none⟩ (.int .i64 0)).setCell ⟨w.heap.size, 6, none⟩ (.slice none 0 0)) := ((((((HX.out.2.2.2.2.2.1.setCell (Nat.le_refl _) _).setCell (Nat.le_refl _) _).setCell (Nat.le_refl _) _).setCell (Nat.le_refl _) _).setCell (Nat.le_refl _) _).setCell (Nat.le_refl _) _).setCell (Nat.le_refl _) _
    rw [HXE.out]
    exact ⟨none, 0, rfl, ⟨rfl, .inl ⟨rfl, rfl⟩⟩, (fun k hk => by cases hk), bS⟩
  · rw [tMan_l] at hf
    have hfl : findF (es.map fl) nMan = some (fl e0) := by rw [fl_find, hf]; rfl
    have hE0 : fdF (es.map fl) c nMan = 0 := by rw [fl_fd]; exact hk
    have hda := (h1.hf e0 (findE_mem hf).1).da
    obtain ⟨B, hB⟩ : ∃ B : ByteArray, B = ⟨e0.da.toArray⟩ := ⟨_, rfl⟩
    have hXX : X = match dcM B with | .ok m => .ok m | .error _ => .error 80 := by
      rw [HX.out.1]; unfold ldF
      rw [if_neg (by simpa using hE0), hfl, hB]
      rfl
    obtain ⟨n, hn⟩ : ∃ n, n = e0.da.length := ⟨_, rfl⟩
    rw [← hn]
    have HN := Hid.mk (And.intro hn (And.intro hB (And.intro hda hf)))
    have hsz : n ≤ 268435456 := by rw [hn]; exact hda
    have hde := decode_any B W1 (HX.out.2.2.1.below HX.out.2.2.2.2.2.1 HX.out.2.2.2.1) (Nat.lt_of_lt_of_le HX.out.2.2.2.1 HX.out.2.2.2.2.2.1.size) (by rw [hB, size_da, ← hn]; omega)
    have HXX := Hid.mk hXX
    have hk0 : fdE es c nMan = 0 := hk
    clear hn hB hda hXX hE0 hfl hk
    go_wp2_with fail
    refine read_any tMan 0 (n : Int) W1 HD.out ⟨by decide, by decide⟩ ⟨by omega, by omega⟩ _ (fun hk2 => absurd hk0 hk2) (fun e hf2 hk2 hno => ?_) (fun e hf2 hk2 _ _ hle => ?_)
    · rw [tMan_l, hf] at hf2
      cases hf2
      exact absurd ⟨Int.le_refl _, Int.natCast_nonneg n, by rw [HN.out.1]; omega⟩ hno
    · rw [tMan_l, hf] at hf2
      cases hf2
      have eB : (⟨((e0.da.drop (0 : Int).toNat).take (n : Int).toNat).toArray⟩ : ByteArray) = B := by
        rw [HN.out.2.1, HN.out.1]
        simp
      rw [eB]
      clear eB hle hk2 hf hk0 h1 hsz
      go_wp2_with fail
      refine hde.mono ?_
      clear hde
      rintro e w2 ⟨la, cc, rfl, hrow, hown, b2⟩
      have hk2 : w2.heap[w.heap.size]? = W1.heap[w.heap.size]? := b2.block _ (by rw [HX.out.2.2.2.2.2.2.1]; omega)
      have bw2 := chain HX.out.2.2.2.2.2.1 b2 (Nat.le_refl _)
      have hws : w.heap.size < w2.heap.size := by have := b2.size; have := HX.out.2.2.2.2.2.2.1; omega
      cases hdc : dcM B with
      | ok m =>
        rw [hdc] at hrow hown
        have hX : X = .ok m := by rw [HXX.out, hdc]
        simp only [dcV, unE] at hrow hown ⊢
        rw [mf7]
        obtain ⟨W3, hW3⟩ : ∃ W3, W3 = w2.alloc (.cells #[.int .i64 m.w, .int .i64 m.ch, .int .i64 m.md, .int .i64 m.seq, .int .i64 m.nx, .int .i64 m.jn, .slice la m.rs.length cc] 26) := ⟨_, rfl⟩
        have b23 : Below w2.heap.size w2 W3 := by rw [hW3]; exact (Below.refl _ w2).alloc (Nat.le_refl _) _
        have hn3 : W3.heap[w2.heap.size]? = some (.cells #[.int .i64 m.w, .int .i64 m.ch, .int .i64 m.md, .int .i64 m.seq, .int .i64 m.nx, .int .i64 m.jn, .slice la m.rs.length cc] 26 (0, 0)) := by rw [hW3]; exact heap_alloc_new w2 _
        obtain ⟨⟨e0', e1, e2, e3, e4, e5, e6⟩, fz⟩ := HZ.out W3 (Nat.le_trans b2.size b23.size) ((b23.block _ hws).trans hk2)
        have f0 := fz 0
        have f1 := fz 1
        have f2 := fz 2
        have f3 := fz 3
        have f4 := fz 4
        have f5 := fz 5
        have f6 := fz 6
        have g0 : W3.cell? ⟨w2.heap.size, 0, none⟩ = some (.int .i64 m.w) := by simp [World.cell?, hn3]
        have g1 : W3.cell? ⟨w2.heap.size, 1, none⟩ = some (.int .i64 m.ch) := by simp [World.cell?, hn3]
        have g2 : W3.cell? ⟨w2.heap.size, 2, none⟩ = some (.int .i64 m.md) := by simp [World.cell?, hn3]
        have g3 : W3.cell? ⟨w2.heap.size, 3, none⟩ = some (.int .i64 m.seq) := by simp [World.cell?, hn3]
        have g4 : W3.cell? ⟨w2.heap.size, 4, none⟩ = some (.int .i64 m.nx) := by simp [World.cell?, hn3]
        have g5 : W3.cell? ⟨w2.heap.size, 5, none⟩ = some (.int .i64 m.jn) := by simp [World.cell?, hn3]
        have g6 : W3.cell? ⟨w2.heap.size, 6, none⟩ = some (.slice la m.rs.length cc) := by simp [World.cell?, hn3]
        have HXE := Hid.mk (And.intro hX (And.intro bw2 (And.intro hrow hown)))
        have HW3 := Hid.mk hW3
        have hwne : w.heap.size ≠ w2.heap.size := by omega
        obtain ⟨⟨a0, a1, a2, a3, a4, a5, a6⟩, fa⟩ := HZ.out w2 b2.size hk2
        have k0 := fa 0
        have k1 := fa 1
        have k2 := fa 2
        have k3 := fa 3
        have k4 := fa 4
        have k5 := fa 5
        have k6 := fa 6
        clear fz fa hX hrow hown b23 hn3 hk2 bw2 b2 hdc
        subst hW3
        go_wp2
        refine bodyPost_ret (v := .tuple #[.agg #[.int .i64 m.w, .int .i64 m.ch, .int .i64 m.md, .int .i64 m.seq, .int .i64 m.nx, .int .i64 m.jn, .slice la m.rs.length cc], .int .i64 0]) (by simp [results, Tryz.results12, go_sem, a0, a1, a2, a3, a4, a5, a6, hwne, hws]; try rfl) rfl ?_
        have stf : Stay (fun k => k = w.heap.size) w2 ((((((((w2.setCell ⟨w.heap.size, 0, none⟩ (.int .i64 m.w)).setCell ⟨w.heap.size, 1, none⟩ (.int .i64 m.ch)).setCell ⟨w.heap.size, 2, none⟩ (.int .i64 m.md)).setCell ⟨w.heap.size, 3, none⟩ (.int .i64 m.seq)).setCell ⟨w.heap.size, 4, none⟩ (.int .i64 m.nx)).setCell ⟨w.heap.size, 5, none⟩ (.int .i64 m.jn)).setCell ⟨w.heap.size, 6, none⟩ (.slice la m.rs.length cc)).alloc (.cells #[.int .i64 m.w, .int .i64 m.ch, .int .i64 m.md, .int .i64 m.seq, .int .i64 m.nx, .int .i64 m.jn, .slice la m.rs.length cc] 26)) := (((((((((Stay.refl (fun k => k = w.heap.size) w2).setCell (p := ⟨w.heap.size, 0, none⟩) (fun _ => rfl) _).setCell (p := ⟨w.heap.size, 1, none⟩) (fun _ => rfl) _).setCell (p := ⟨w.heap.size, 2, none⟩) (fun _ => rfl) _).setCell (p := ⟨w.heap.size, 3, none⟩) (fun _ => rfl) _).setCell (p := ⟨w.heap.size, 4, none⟩) (fun _ => rfl) _).setCell (p := ⟨w.heap.size, 5, none⟩) (fun _ => rfl) _).setCell (p := ⟨w.heap.size, 6, none⟩) (fun _ => rfl) _)).alloc _
        have bWf : Below w.heap.size w ((((((((w2.setCell ⟨w.heap.size, 0, none⟩ (.int .i64 m.w)).setCell ⟨w.heap.size, 1, none⟩ (.int .i64 m.ch)).setCell ⟨w.heap.size, 2, none⟩ (.int .i64 m.md)).setCell ⟨w.heap.size, 3, none⟩ (.int .i64 m.seq)).setCell ⟨w.heap.size, 4, none⟩ (.int .i64 m.nx)).setCell ⟨w.heap.size, 5, none⟩ (.int .i64 m.jn)).setCell ⟨w.heap.size, 6, none⟩ (.slice la m.rs.length cc)).alloc (.cells #[.int .i64 m.w, .int .i64 m.ch, .int .i64 m.md, .int .i64 m.seq, .int .i64 m.nx, .int .i64 m.jn, .slice la m.rs.length cc] 26)) := HXE.out.2.1.trans (stf.toBelow (fun k hk e => by omega) HXE.out.2.1.size)
        rw [HXE.out.1]
        exact ⟨la, cc, rfl, row_kept HXE.out.2.2.1 stf (fun k hk e => by have := HXE.out.2.2.2 k hk; have := HX.out.2.2.2.2.2.2.1; omega), (fun k hk => by have := HXE.out.2.2.2 k hk; have := HX.out.2.2.2.2.2.2.1; omega), bWf⟩
      | error e6' =>
        have hne := dec_err hdc
        have hX : X = .error 80 := by rw [HXX.out, hdc]
        simp only [dcV, unE] at hrow hown ⊢
        have hmz : mfC mz la cc = [.int .i64 0, .int .i64 0, .int .i64 0, .int .i64 0, .int .i64 0, .int .i64 0, .slice la 0 cc] := rfl
        simp only [hmz]
        obtain ⟨⟨a0, a1, a2, a3, a4, a5, a6⟩, fa⟩ := HZ.out w2 b2.size hk2
        have k0 := fa 0
        have k1 := fa 1
        have k2 := fa 2
        have k3 := fa 3
        have k4 := fa 4
        have k5 := fa 5
        have k6 := fa 6
        have d0 : (e6' != 0) = true := by simpa using hne
        have HXE := Hid.mk (And.intro hX bw2)
        have hwne : w.heap.size ≠ w2.heap.size := by omega
        clear fa hX hrow hown hk2 bw2 b2 hne hmz hdc
        go_wp2
        refine bodyPost_ret (v := .tuple #[.agg #[.int .i64 0, .int .i64 0, .int .i64 0, .int .i64 0, .int .i64 0, .int .i64 0, .slice none 0 0], .int .i64 80]) (by simp [results, Tryz.results12, go_sem, a0, a1, a2, a3, a4, a5, a6, hwne, hws]; try rfl) rfl ?_
        have stf : Stay (fun k => k = w.heap.size) w2 ((((((((w2.setCell ⟨w.heap.size, 0, none⟩ (.int .i64 0)).setCell ⟨w.heap.size, 1, none⟩ (.int .i64 0)).setCell ⟨w.heap.size, 2, none⟩ (.int .i64 0)).setCell ⟨w.heap.size, 3, none⟩ (.int .i64 0)).setCell ⟨w.heap.size, 4, none⟩ (.int .i64 0)).setCell ⟨w.heap.size, 5, none⟩ (.int .i64 0)).setCell ⟨w.heap.size, 6, none⟩ (.slice none 0 0)).alloc (.cells #[.int .i64 0, .int .i64 0, .int .i64 0, .int .i64 0, .int .i64 0, .int .i64 0, .slice la 0 cc] 26)) := (((((((((Stay.refl (fun k => k = w.heap.size) w2).setCell (p := ⟨w.heap.size, 0, none⟩) (fun _ => rfl) _).setCell (p := ⟨w.heap.size, 1, none⟩) (fun _ => rfl) _).setCell (p := ⟨w.heap.size, 2, none⟩) (fun _ => rfl) _).setCell (p := ⟨w.heap.size, 3, none⟩) (fun _ => rfl) _).setCell (p := ⟨w.heap.size, 4, none⟩) (fun _ => rfl) _).setCell (p := ⟨w.heap.size, 5, none⟩) (fun _ => rfl) _).setCell (p := ⟨w.heap.size, 6, none⟩) (fun _ => rfl) _)).alloc _
        have bWf : Below w.heap.size w ((((((((w2.setCell ⟨w.heap.size, 0, none⟩ (.int .i64 0)).setCell ⟨w.heap.size, 1, none⟩ (.int .i64 0)).setCell ⟨w.heap.size, 2, none⟩ (.int .i64 0)).setCell ⟨w.heap.size, 3, none⟩ (.int .i64 0)).setCell ⟨w.heap.size, 4, none⟩ (.int .i64 0)).setCell ⟨w.heap.size, 5, none⟩ (.int .i64 0)).setCell ⟨w.heap.size, 6, none⟩ (.slice none 0 0)).alloc (.cells #[.int .i64 0, .int .i64 0, .int .i64 0, .int .i64 0, .int .i64 0, .int .i64 0, .slice la 0 cc] 26)) := HXE.out.2.trans (stf.toBelow (fun k hk e => by omega) HXE.out.2.size)
        rw [HXE.out.1]
        exact ⟨none, 0, rfl, ⟨rfl, .inl ⟨rfl, rfl⟩⟩, (fun k hk => by cases hk), bWf⟩
end Go.Proofs.YtkoannkecojhmaaGreatDoor
set_option linter.unusedVariables false
set_option linter.unusedSimpArgs false
namespace Go.Proofs.YtkoannkecojhmaaGreatDoor
open Go.RowKit
theorem tmod_gt (k : Int) (n : Nat) (hn : 1 ≤ n) : -(n : Int) < k.tmod n := by
  have h : (-k).tmod n < n := Int.tmod_lt_of_pos _ (by omega)
  rw [Int.neg_tmod] at h
  omega
set_option maxHeartbeats 1000000 in
set_option maxRecDepth 100000 in
theorem pick_any (k : Int) (n : Nat) (w : World) (hn : 1 ≤ n) (hn2 : n ≤ 1152921504606846976) (hk : -9223372036854775808 ≤ k ∧ k < 9223372036854775808) :
    Calls Tryz.prog 8 #[.int .i64 k, .int .i64 n] w fun e w' => e = .returned (.int .i64 (k % (n : Int))) ∧ w' = w := by
  have hm : k % (n : Int) = if k.tmod n < 0 then k.tmod n + n else k.tmod n := by
    have h1 := Int.tmod_add_mul_tdiv k n
    have h2 := Int.emod_emod_of_dvd k (Int.dvd_refl (n : Int))
    have hn0 : (0 : Int) < n := by omega
    have h3 : k.tmod n % n = k % n := by
      have : k % n = (k.tmod n + n * k.tdiv n) % n := by rw [h1]
      rw [this, Int.add_mul_emod_self_left]
    have h4 : -(n : Int) < k.tmod n := tmod_gt k n hn
    have h5 : k.tmod n < n := Int.tmod_lt_of_pos k hn0
    split
    · have h6 : (k.tmod n + n) % n = k.tmod n % n := by rw [Int.add_emod, Int.emod_self, Int.add_zero, Int.emod_emod_of_dvd _ (Int.dvd_refl _)]
      rw [← h3, ← h6]
      exact Int.emod_eq_of_lt (by omega) (by omega)
    · rw [← h3]
      exact Int.emod_eq_of_lt (by omega) h5
  go_enter Tryz.func8, Tryz.ntmps8
  go_wp2
  · go_ret
    have h4 : -(n : Int) < k.tmod n := tmod_gt k n hn
    rw [if_pos ‹_›] at hm
    exact ⟨ret_int (by rw [hm]; unfold wrap64; omega), rfl⟩
  · go_ret
    rw [if_neg (by omega)] at hm
    exact ⟨ret_int hm.symm, rfl⟩
end Go.Proofs.YtkoannkecojhmaaGreatDoor
set_option linter.unusedVariables false
set_option linter.unusedSimpArgs false
namespace Go.Proofs.YtkoannkecojhmaaGreatDoor
open Go.RowKit Go.Proofs.SealMath
/-- The runs that goes makes. -/
def goR : List Ru → Nat → Int → List Ru
  | [], _, _ => []
  | r :: rs, i, hi => ⟨1 + i, hi + r.lo % 1000, hi + r.lo % 1000 + 1 + r.hi % 1125899906842624, 1 + r.cnt % 2097152⟩ :: goR rs (i + 1) (hi + r.lo % 1000 + 1 + r.hi % 1125899906842624)
def goH : List Ru → Int → Int
  | [], hi => hi
  | r :: rs, hi => goH rs (hi + r.lo % 1000 + 1 + r.hi % 1125899906842624)
def goW (m : Mf) : Int := 64 * (1 + m.w % 16)
def goC (m : Mf) : Int := if 1 + m.md % 2 = 1 then goW m / 32 + m.ch % (goW m / 8 - goW m / 32 + 1) else 0
/-- The manifest that goes makes. -/
def goM (m : Mf) : Mf := ⟨goW m, goC m, 1 + m.md % 2, goH (m.rs.take 24) 0 + m.seq % 576460752303423488, (m.rs.take 24).length + 1 + m.jn % 1000 + 1 + m.nx % 549755813888, (m.rs.take 24).length + 1 + m.jn % 1000, goR (m.rs.take 24) 0 0⟩
theorem goR_len : ∀ (l : List Ru) (i : Nat) (h : Int), (goR l i h).length = l.length
  | [], _, _ => rfl
  | r :: l, i, h => by simp [goR, goR_len l]
theorem goH_bd : ∀ (l : List Ru) (h : Int), h ≤ goH l h ∧ goH l h ≤ h + l.length * 1125899906843650
  | [], h => by simp [goH]
  | r :: l, h => by
    have := goH_bd l (h + r.lo % 1000 + 1 + r.hi % 1125899906842624)
    simp only [goH, List.length_cons]
    push_cast
    omega
theorem goR_foll (seq : Int) : ∀ (l : List Ru) (i : Nat) (h b : Int), 0 ≤ b → b ≤ h → goH l h ≤ seq → foll seq b (goR l i h) = true
  | [], _, _, _, _, _, _ => rfl
  | r :: l, i, h, b, h0, hb, hs => by
    have hh := goH_bd l (h + r.lo % 1000 + 1 + r.hi % 1125899906842624)
    simp only [goH] at hs
    simp only [goR, foll, Bool.and_eq_true, decide_eq_true_eq]
    exact ⟨by omega, goR_foll seq l _ _ _ (by omega) (by omega) hs⟩
theorem goR_numd (nx : Int) : ∀ (l : List Ru) (i : Nat) (h : Int) (tk : List Int), (∀ t ∈ tk, t ≤ i ∨ (i : Int) + l.length < t) → (i : Int) + l.length ≤ nx - 1 → numd nx tk (goR l i h) = true
  | [], _, _, _, _, _ => rfl
  | r :: l, i, h, tk, ht, hn => by
    simp only [List.length_cons] at ht hn
    push_cast at ht hn
    simp only [goR, numd, Bool.and_eq_true, decide_eq_true_eq]
    refine ⟨⟨fun hm => ?_, by omega, by omega⟩, goR_numd nx l (i + 1) _ _ (fun t htm => ?_) (by push_cast; omega)⟩
    · have := ht _ hm; omega
    · push_cast
      rcases List.mem_cons.1 htm with rfl | htm
      · left; omega
      · have := ht t htm; omega
theorem goM_ok (m : Mf) : chE (goM m) = 0 := by
  have hl : (m.rs.take 24).length ≤ 24 := by rw [List.length_take]; omega
  have hh := goH_bd (m.rs.take 24) 0
  have hw : 64 ≤ goW m ∧ goW m ≤ 1024 ∧ goW m % 64 = 0 := by unfold goW; omega
  have h1 : wdB (goW m) = true := decide_eq_true hw
  have h2 : mdB (1 + m.md % 2) = true := decide_eq_true (by omega)
  have h3 : ctB (goW m) (goC m) (1 + m.md % 2) = true := by
    unfold ctB goC
    by_cases hm : 1 + m.md % 2 = 2
    · rw [if_pos hm, if_neg (by omega)]; rfl
    · rw [if_neg hm, if_pos (by omega)]
      have hd : 0 < goW m / 8 - goW m / 32 + 1 := by omega
      have a := Int.emod_nonneg m.ch (show goW m / 8 - goW m / 32 + 1 ≠ 0 by omega)
      have b := Int.emod_lt_of_pos m.ch hd
      exact decide_eq_true (by omega)
  have h4 : nbB (goM m) = true := by
    unfold nbB goM
    simp only [goR_len, Bool.and_eq_true, decide_eq_true_eq]
    omega
  have h5 : numd (goM m).nx [(goM m).jn] (goM m).rs = true := by
    unfold goM
    refine goR_numd _ _ 0 0 _ (fun t ht => ?_) (by simp only; push_cast; omega)
    simp only [List.mem_singleton] at ht
    right; rw [ht]; push_cast; omega
  have h6 : foll (goM m).seq 0 (goM m).rs = true := goR_foll _ _ 0 0 0 (by omega) (by omega) (by simp only [goM]; omega)
  unfold chE
  rw [show (goM m).w = goW m from rfl, show (goM m).md = 1 + m.md % 2 from rfl, show (goM m).ch = goC m from rfl, h1, h2, h3, h4, h5, h6]
  rfl
end Go.Proofs.YtkoannkecojhmaaGreatDoor
set_option linter.unusedVariables false
set_option linter.unusedSimpArgs false
namespace Go.Proofs.YtkoannkecojhmaaGreatDoor
open Go.RowKit Go.Proofs.SealMath
theorem via {T P : Prop} (t : T) (f : PLift T → P) : P := f ⟨t⟩
/-- What is kept while runs are made. -/
def RG (wa : World) (g0 : Nat) (m : Mf) (mla : Option Addr) (mc : Nat) (W C M : Int) (hv u : Value) (wr : World) : Prop :=
  ∃ (i : Nat) (hi : Int) (pre : List Ru) (la : Option Addr) (c : Nat), hv = .int .i64 hi ∧ u = .int .i64 i ∧ i ≤ (m.rs.take 24).length ∧ 0 ≤ hi ∧ hi ≤ i * 1125899906843650 ∧ pre.length = i ∧ Hid (goR (m.rs.take 24) 0 0 = pre ++ goR ((m.rs.take 24).drop i) i hi ∧ goH (m.rs.take 24) 0 = goH ((m.rs.take 24).drop i) hi) ∧
    MB wr (wa.heap.size + 1) [W, C, M, 0, 0, 0] (.slice la i c) ∧ wr.ownsRow 0 54 4 (.slice la i c) i (pre.flatMap ruC) ∧ (∀ k, (Value.slice la i c).ownBlock = some k → wa.heap.size + 2 ≤ k) ∧ Zr wr wa.heap.size ∧ Below wa.heap.size wa wr ∧ SAt wr g0 (mfC m mla mc)
set_option maxHeartbeats 16000000 in
set_option maxRecDepth 100000 in
theorem goes_any (m : Mf) (mla : Option Addr) (mc : Nat) (w : World) (hL : LAt w mla m.rs) (hw : MfW m) (hc : m.rs.length ≤ mc) (hs : m.rs.length < 4611686018427387904) :
    Calls Tryz.prog 5 #[.agg (mfC m mla mc).toArray] w fun e w' => ∃ (la : Option Addr) (c : Nat), e = .returned (.agg (mfC (goM m) la c).toArray) ∧ w'.ownsRow 0 54 4 (.slice la (goM m).rs.length c) (goM m).rs.length ((goM m).rs.flatMap ruC) ∧ (∀ k, (Value.slice la (goM m).rs.length c).ownBlock = some k → w.heap.size ≤ k) ∧ Below w.heap.size w w' := by
  obtain ⟨wa, hwa⟩ : ∃ wa, wa = w.alloc (.cells (mfC m mla mc).toArray 26) := ⟨_, rfl⟩
  have ba : Below w.heap.size w wa := by rw [hwa]; exact (Below.refl _ w).alloc (Nat.le_refl _) _
  have sza : wa.heap.size = w.heap.size + 1 := by rw [hwa]; simp
  have SA : SAt wa w.heap.size (mfC m mla mc) := by rw [hwa]; exact SAt.new w _ _
  have hwa' : w.alloc (.cells (mfC m mla mc).toArray 26) = wa := hwa.symm
  obtain ⟨wb, hwb⟩ : ∃ wb, wb = wa.alloc (.cells #[.int .i64 0, .int .i64 0, .int .i64 0, .int .i64 0, .int .i64 0, .int .i64 0, .slice none 0 0] 26) := ⟨_, rfl⟩
  have bb : Below wa.heap.size wa wb := by rw [hwb]; exact (Below.refl _ wa).alloc (Nat.le_refl _) _
  have szb : wb.heap.size = wa.heap.size + 1 := by rw [hwb]; simp
  have ZB : Zr wb wa.heap.size := by rw [hwb]; exact heap_alloc_last wa _
  have hwb' : wa.alloc (.cells #[.int .i64 0, .int .i64 0, .int .i64 0, .int .i64 0, .int .i64 0, .int .i64 0, .slice none 0 0] 26) = wb := hwb.symm
  have SB := SA.lat bb
  obtain ⟨a0, a1, a2, a3, a4, a5, a6⟩ : wb.cell? ⟨w.heap.size, 0, none⟩ = some (.int .i64 m.w) ∧ wb.cell? ⟨w.heap.size, 1, none⟩ = some (.int .i64 m.ch) ∧ wb.cell? ⟨w.heap.size, 2, none⟩ = some (.int .i64 m.md) ∧ wb.cell? ⟨w.heap.size, 3, none⟩ = some (.int .i64 m.seq) ∧ wb.cell? ⟨w.heap.size, 4, none⟩ = some (.int .i64 m.nx) ∧ wb.cell? ⟨w.heap.size, 5, none⟩ = some (.int .i64 m.jn) ∧ wb.cell? ⟨w.heap.size, 6, none⟩ = some (.slice mla m.rs.length mc) := ⟨SB 0 _ rfl, SB 1 _ rfl, SB 2 _ rfl, SB 3 _ rfl, SB 4 _ rfl, SB 5 _ rfl, SB 6 _ rfl⟩
  have i1 := hw.w
  have i2 := hw.ch
  have i3 := hw.md
  have i4 := hw.seq
  have i5 := hw.nx
  have i6 := hw.jn
  have p1 := fun W => pick_any m.w 16 W (by omega) (by omega) (by omega)
  have p2 := fun W => pick_any m.md 2 W (by omega) (by omega) (by omega)
  obtain ⟨k16, hk16⟩ : ∃ k, k = m.w % 16 := ⟨_, rfl⟩
  obtain ⟨k2, hk2⟩ : ∃ k, k = m.md % 2 := ⟨_, rfl⟩
  rw [show m.w % ((16 : Nat) : Int) = k16 by rw [hk16]; rfl] at p1
  rw [show m.md % ((2 : Nat) : Int) = k2 by rw [hk2]; rfl] at p2
  have r16 : 0 ≤ k16 ∧ k16 < 16 := by omega
  have r2 : 0 ≤ k2 ∧ k2 < 2 := by omega
  have hGW : goW m = 64 * (1 + k16) := by unfold goW; rw [hk16]
  have hGC : goC m = if 1 + k2 = 1 then 64 * (1 + k16) / 32 + m.ch % (64 * (1 + k16) / 8 - 64 * (1 + k16) / 32 + 1) else 0 := by unfold goC; rw [hGW, hk2]
  obtain ⟨D, hD⟩ : ∃ D : Nat, 64 * (1 + k16) / 8 - 64 * (1 + k16) / 32 + 1 = (D : Int) := ⟨(64 * (1 + k16) / 8 - 64 * (1 + k16) / 32 + 1).toNat, by omega⟩
  have p3 := fun W => pick_any m.ch D W (by omega) (by omega) (by omega)
  obtain ⟨kc, hkc⟩ : ∃ k, k = m.ch % (D : Int) := ⟨_, rfl⟩
  rw [hD, ← hkc] at hGC
  rw [← hkc] at p3
  have rc : 0 ≤ kc ∧ kc < D := by rw [hkc]; exact ⟨Int.emod_nonneg _ (by omega), Int.emod_lt_of_pos _ (by omega)⟩
  obtain ⟨wc, hwc⟩ : ∃ wc, wc = wb.alloc (.cells #[.int .i64 (64 * (1 + k16)), .int .i64 0, .int .i64 (1 + k2), .int .i64 0, .int .i64 0, .int .i64 0, .slice none 0 0] 26) := ⟨_, rfl⟩
  have bc : Below wb.heap.size wb wc := by rw [hwc]; exact (Below.refl _ wb).alloc (Nat.le_refl _) _
  have NC : MB wc (wa.heap.size + 1) [64 * (1 + k16), 0, 1 + k2, 0, 0, 0] (.slice none 0 0) := by rw [← szb, hwc]; exact heap_alloc_last wb _
  have ZC : Zr wc wa.heap.size := (bc.block _ (by omega)).trans ZB
  have bac : Below wa.heap.size wa wc := chain bb bc (Nat.le_refl _)
  obtain ⟨wd, hwd⟩ : ∃ wd, wd = wb.alloc (.cells #[.int .i64 (64 * (1 + k16)), .int .i64 (64 * (1 + k16) / 32 + kc), .int .i64 (1 + k2), .int .i64 0, .int .i64 0, .int .i64 0, .slice none 0 0] 26) := ⟨_, rfl⟩
  have bd : Below wb.heap.size wb wd := by rw [hwd]; exact (Below.refl _ wb).alloc (Nat.le_refl _) _
  have ND : MB wd (wa.heap.size + 1) [64 * (1 + k16), 64 * (1 + k16) / 32 + kc, 1 + k2, 0, 0, 0] (.slice none 0 0) := by rw [← szb, hwd]; exact heap_alloc_last wb _
  have ZD : Zr wd wa.heap.size := (bd.block _ (by omega)).trans ZB
  have bad : Below wa.heap.size wa wd := chain bb bd (Nat.le_refl _)
  have S0 : 1 + k2 = 1 → Hid (RG wa w.heap.size m mla mc (64 * (1 + k16)) (goC m) (1 + k2) (.int .i64 0) (.int .i64 0) wd) := fun h => by
    rw [if_pos h] at hGC
    rw [hGC]
    exact ⟨0, 0, [], none, 0, rfl, rfl, Nat.zero_le _, by omega, by omega, rfl, ⟨rfl, rfl⟩, ND, World.ownsRow_nil _ _ _ _, (fun k hk => by cases hk), ZD, bad, SA.lat bad⟩
  have S1 : ¬ 1 + k2 = 1 → Hid (RG wa w.heap.size m mla mc (64 * (1 + k16)) (goC m) (1 + k2) (.int .i64 0) (.int .i64 0) wc) := fun h => by
    rw [if_neg h] at hGC
    rw [hGC]
    exact ⟨0, 0, [], none, 0, rfl, rfl, Nat.zero_le _, by omega, by omega, rfl, ⟨rfl, rfl⟩, NC, World.ownsRow_nil _ _ _ _, (fun k hk => by cases hk), ZC, bac, SA.lat bac⟩
  have HSA := Hid.mk SA
  have HGW := Hid.mk hGW
  have HK2 := Hid.mk hk2
  have HW := Hid.mk hw
  have HL := Hid.mk (hL.below ba)
  have HSZ := Hid.mk sza
  have hga : w.heap.size < wa.heap.size := by omega
  clear hwa hwb SA bb hGW hk16 hk2 hGC hkc ND NC ZC ZD ZB bac bad bd hw hL sza bc
  subst hwd
  subst hwc
  simp only [mfC] at hwa' ⊢
  obtain ⟨CC, hCC⟩ : ∃ C, C = goC m := ⟨_, rfl⟩
  rw [← hCC] at S0 S1
  have HCC := Hid.mk hCC.symm
  clear hCC
  go_enter Tryz.func5, Tryz.ntmps5
  go_wp2_with first
    | (go_at_call 8; refine (p1 _).mono ?_; rintro e w' ⟨rfl, rfl⟩; clear p1)
    | (go_at_call 8; refine (p2 _).mono ?_; rintro e w' ⟨rfl, rfl⟩; clear p2)
    | (go_at_call 8; refine (p3 _).mono ?_; rintro e w' ⟨rfl, rfl⟩; clear p3)
  all_goals
    clear a0 a2
    try simp only [‹(1 + k2 == 1) = false›]
    go_loopw [5, 6] (fun hv u wr => RG wa w.heap.size m mla mc (64 * (1 + k16)) CC (1 + k2) hv u wr) (fun _ u _ => (m.rs.take 24).length - (intOf u).toNat)
    case atStart =>
      first
        | exact (S0 (by simpa using ‹(1 + k2 == 1) = true›)).out
        | exact (S1 (by simpa using ‹(1 + k2 == 1) = false›)).out
    case round =>
      obtain ⟨i, hi, pre, la, c, rfl, rfl, hit, hi0, hi1, hpre, HGO, mb, ow, own, zr, bw, sm⟩ := hrel
      have k6 := sm 6 _ rfl
      have l24 : (m.rs.take 24).length ≤ 24 ∧ (m.rs.take 24).length ≤ m.rs.length := by rw [List.length_take]; omega
      by_cases hlt : i < (m.rs.take 24).length
      · have hlm : i < m.rs.length := by omega
        have hl24 : i < 24 := by omega
        obtain ⟨g, off, hla, hra⟩ := (HL.out.below bw).at' (by intro h; rw [h] at hlm; simp at hlm)
        obtain ⟨x0, x1, x2, x3⟩ := row_ru hra i hlm
        have hwr := HW.out.rs m.rs[i] (List.getElem_mem hlm)
        have hgo := HGO.out
        rw [List.drop_eq_getElem_cons hlt, List.getElem_take] at hgo
        obtain ⟨r, hr⟩ : ∃ r, r = m.rs[i] := ⟨_, rfl⟩
        rw [← hr] at x0 x1 x2 x3 hwr hgo
        obtain ⟨kl, hkl⟩ : ∃ k, k = r.lo % 1000 := ⟨_, rfl⟩
        obtain ⟨kh, hkh⟩ : ∃ k, k = r.hi % 1125899906842624 := ⟨_, rfl⟩
        obtain ⟨kn, hkn⟩ : ∃ k, k = r.cnt % 2097152 := ⟨_, rfl⟩
        simp only [goR, goH] at hgo
        rw [← hkl, ← hkh, ← hkn] at hgo
        have q1 := fun W => pick_any r.lo 1000 W (by omega) (by omega) (by omega)
        have q2 := fun W => pick_any r.hi 1125899906842624 W (by omega) (by omega) (by omega)
        have q3 := fun W => pick_any r.cnt 2097152 W (by omega) (by omega) (by omega)
        rw [show r.lo % ((1000 : Nat) : Int) = kl by rw [hkl]; rfl] at q1
        rw [show r.hi % ((1125899906842624 : Nat) : Int) = kh by rw [hkh]; rfl] at q2
        rw [show r.cnt % ((2097152 : Nat) : Int) = kn by rw [hkn]; rfl] at q3
        have b1 : 0 ≤ kl ∧ kl < 1000 := by omega
        have b2 : 0 ≤ kh ∧ kh < 1125899906842624 := by omega
        have b3 : 0 ≤ kn ∧ kn < 2097152 := by omega
        have wlt : wa.heap.size + 1 < wr.heap.size := Nb.lt mb
        obtain ⟨W1, hW1⟩ : ∃ W1, W1 = wr.alloc (.cells #[.int .i64 (1 + (i : Int)), .int .i64 (hi + kl), .int .i64 0, .int .i64 0] 54) := ⟨_, rfl⟩
        have hW1' : wr.alloc (.cells #[.int .i64 (1 + (i : Int)), .int .i64 (hi + kl), .int .i64 0, .int .i64 0] 54) = W1 := hW1.symm
        have y1 : Below wr.heap.size wr W1 := by rw [hW1]; exact (Below.refl _ wr).alloc (Nat.le_refl _) _
        have H1 : W1.heap[wr.heap.size]? = some (.cells #[.int .i64 (1 + (i : Int)), .int .i64 (hi + kl), .int .i64 0, .int .i64 0] 54 (0, 0)) := by rw [hW1]; exact heap_alloc_last wr _
        obtain ⟨W2, hW2⟩ : ∃ W2, W2 = W1.setCell ⟨wr.heap.size, 2, none⟩ (.int .i64 (hi + kl + 1 + kh)) := ⟨_, rfl⟩
        have hW2' : W1.setCell ⟨wr.heap.size, 2, none⟩ (.int .i64 (hi + kl + 1 + kh)) = W2 := hW2.symm
        have H2 : W2.heap[wr.heap.size]? = some (.cells #[.int .i64 (1 + (i : Int)), .int .i64 (hi + kl), .int .i64 (hi + kl + 1 + kh), .int .i64 0] 54 (0, 0)) := by rw [hW2, heap_setCell_same W1 _ 2 _ _ _ H1]; rfl
        have y2 : Below wr.heap.size wr W2 := by rw [hW2]; exact y1.setCell (p := ⟨wr.heap.size, 2, none⟩) (Nat.le_refl _) _
        obtain ⟨W3, hW3⟩ : ∃ W3, W3 = (W2.setCell ⟨wr.heap.size, 3, none⟩ (.int .i64 (1 + kn))).drew := ⟨_, rfl⟩
        have hW3' : (W2.setCell ⟨wr.heap.size, 3, none⟩ (.int .i64 (1 + kn))).drew = W3 := hW3.symm
        have H3 : W3.heap[wr.heap.size]? = some (.cells #[.int .i64 (1 + (i : Int)), .int .i64 (hi + kl), .int .i64 (hi + kl + 1 + kh), .int .i64 (1 + kn)] 54 (0, 0)) := by rw [hW3]; show (W2.setCell _ _).heap[_]? = _; rw [heap_setCell_same W2 _ 3 _ _ _ H2]; rfl
        have y3 : Below wr.heap.size wr W3 := by rw [hW3]; exact (y2.setCell (p := ⟨wr.heap.size, 3, none⟩) (Nat.le_refl _) _).drew
        obtain ⟨la', c', w6, hap, x6, f6, mb7, ow7, own7, zr7, bw7⟩ := un_step (w := wa) (w4 := W3) ⟨1 + (i : Int), hi + kl, hi + kl + 1 + kh, 1 + kn⟩ hpre (by omega) (mb.kept (F := fun _ => False) (.below y3) (fun h => h)) (row_kept (F := fun _ => False) ow (.below y3) (fun _ _ h => h)) own ((y3.block _ (by omega)).trans zr) (chain bw y3 (Nat.le_refl _)) (by have := y3.size; omega)
        have st6 : SAt (w6.setCell ⟨wa.heap.size + 1, 6, none⟩ (.slice la' (i + 1) c')) w.heap.size (mfC m mla mc) := HSA.out.lat bw7
        have w1c1 : W1.drew.cell? ⟨wr.heap.size, 1, none⟩ = some (.int .i64 (hi + kl)) := by (show W1.cell? _ = _); simp [World.cell?, H1]
        have w1c2 : W1.drew.cell? ⟨wr.heap.size, 2, none⟩ = some (.int .i64 0) := by (show W1.cell? _ = _); simp [World.cell?, H1]
        have w1f : ∀ j, W1.drew.frozen? ⟨wr.heap.size, j, none⟩ = false := fun j => by (show W1.frozen? _ = _); simp [World.frozen?, H1]
        have w1k : W1.drew.cell? ⟨w.heap.size, 6, none⟩ = some (.slice mla m.rs.length mc) := cell_lat y1.drew k6
        have w1x : W1.drew.cell? ⟨g, off + i * 4 + 2, none⟩ = some (.int .i64 r.hi) := cell_lat y1.drew x2
        have w2k : W2.drew.cell? ⟨w.heap.size, 6, none⟩ = some (.slice mla m.rs.length mc) := cell_lat y2.drew k6
        have w2x : W2.drew.cell? ⟨g, off + i * 4 + 3, none⟩ = some (.int .i64 r.cnt) := cell_lat y2.drew x3
        have w2c : W2.drew.cell? ⟨wr.heap.size, 3, none⟩ = some (.int .i64 0) := by (show W2.cell? _ = _); simp [World.cell?, H2]
        have w2f : ∀ j, W2.drew.frozen? ⟨wr.heap.size, j, none⟩ = false := fun j => by (show W2.frozen? _ = _); simp [World.frozen?, H2]
        have w3a : W3.cell? ⟨wr.heap.size, 0, none⟩ = some (.int .i64 (1 + (i : Int))) := by simp [World.cell?, H3]
        have w3b : W3.cell? ⟨wr.heap.size, 1, none⟩ = some (.int .i64 (hi + kl)) := by simp [World.cell?, H3]
        have w3c : W3.cell? ⟨wr.heap.size, 2, none⟩ = some (.int .i64 (hi + kl + 1 + kh)) := by simp [World.cell?, H3]
        have w3d : W3.cell? ⟨wr.heap.size, 3, none⟩ = some (.int .i64 (1 + kn)) := by simp [World.cell?, H3]
        have w3k := MB.cell6 (mb.kept (F := fun _ => False) (.below y3) (fun h => h)) rfl
        simp only [ruC] at hap
        have HW1 := Hid.mk hW1'
        have HF := Hid.mk (And.intro mb7 (And.intro ow7 (And.intro own7 (And.intro zr7 (And.intro bw7 st6)))))
        have HGO2 := Hid.mk hgo
        have HPL : Hid ((pre ++ [(⟨1 + (i : Int), hi + kl, hi + kl + 1 + kh, 1 + kn⟩ : Ru)]).length = i + 1) := by show _ = _; rw [List.length_append, hpre]; rfl
        clear S0 S1 HGO hgo mb ow own zr sm mb7 ow7 own7 zr7 bw7 st6 hW1 hW2 hW3 H1 H2 H3 y1 y2 y3 hr hra hkl hkh hkn hwr HL HW hW1'
        subst hla
        go_wp2_with first
          | (go_at_call 8; refine (q1 _).mono ?_; rintro e w' ⟨rfl, rfl⟩; clear q1)
        have hW1' := HW1.out
        rw [hW1']
        clear hW1'
        have ww1 : IntKind.i64.wrap (hi + kl + 1) = hi + kl + 1 := by rw [IntKind.wrap_i64]; omega
        have ww2 : IntKind.i64.wrap (hi + kl + 1 + kh) = hi + kl + 1 + kh := by rw [IntKind.wrap_i64]; omega
        have ww3 : IntKind.i64.wrap (1 + kn) = 1 + kn := by rw [IntKind.wrap_i64]; omega
        refine' via ?_ ?_
        rotate_left 2
        · intro hvia
          go_region_with (go_at_call 8; refine (q2 _).mono ?_; rintro e w' ⟨rfl, rfl⟩)
          all_goals exact hvia.down
        try simp only [ww1, ww2, hW2']
        clear q2 w1c1 w1c2 w1f w1k w1x
        go_wp2_with first
          | (go_at_call 8; refine (q3 _).mono ?_; rintro e w' ⟨rfl, rfl⟩; clear q3)
          | (at_builtin; refine wpList_append_eqC rfl _ _ _ _ rfl _ _ _ _ rfl rfl hap ?_)
        obtain ⟨mb7, ow7, own7, zr7, bw7, st6⟩ := HF.out
        refine ⟨⟨i + 1, hi + kl + 1 + kh, pre ++ [⟨1 + (i : Int), hi + kl, hi + kl + 1 + kh, 1 + kn⟩], la', c', rfl, by push_cast; rfl, hlt, by omega, by push_cast; omega, HPL.out, ⟨by rw [HGO2.out.1, List.append_assoc]; rfl, HGO2.out.2⟩, mb7, ow7, own7, zr7, bw7, st6⟩, by simp only [intOf]; omega⟩
      · have e : i = (m.rs.take 24).length := by omega
        have hend : ¬ i < m.rs.length ∨ (i < m.rs.length ∧ ¬ i < 24) := by rw [List.length_take] at e; omega
        have hgo := HGO.out
        rw [e, List.drop_length] at hgo
        simp only [goR, goH, List.append_nil] at hgo
        obtain ⟨ks, hks⟩ : ∃ k, k = m.seq % 576460752303423488 := ⟨_, rfl⟩
        obtain ⟨kj, hkj⟩ : ∃ k, k = m.jn % 1000 := ⟨_, rfl⟩
        obtain ⟨kx, hkx⟩ : ∃ k, k = m.nx % 549755813888 := ⟨_, rfl⟩
        have hgM : goM m = ⟨64 * (1 + k16), CC, 1 + k2, hi + ks, (i : Int) + 1 + kj + 1 + kx, (i : Int) + 1 + kj, pre⟩ := by
          unfold goM
          rw [HGW.out, HCC.out, ← HK2.out, hgo.1, hgo.2, ← hks, ← hkj, ← hkx, ← e]
        have q1 := fun W => pick_any m.seq 576460752303423488 W (by omega) (by omega) (by omega)
        have q2 := fun W => pick_any m.jn 1000 W (by omega) (by omega) (by omega)
        have q3 := fun W => pick_any m.nx 549755813888 W (by omega) (by omega) (by omega)
        rw [show m.seq % ((576460752303423488 : Nat) : Int) = ks by rw [hks]; rfl] at q1
        rw [show m.jn % ((1000 : Nat) : Int) = kj by rw [hkj]; rfl] at q2
        rw [show m.nx % ((549755813888 : Nat) : Int) = kx by rw [hkx]; rfl] at q3
        have b1 : 0 ≤ ks ∧ ks < 576460752303423488 := by omega
        have b2 : 0 ≤ kj ∧ kj < 1000 := by omega
        have b3 : 0 ≤ kx ∧ kx < 549755813888 := by omega
        have wlt : wa.heap.size + 1 < wr.heap.size := Nb.lt mb
        obtain ⟨V1, hV1⟩ : ∃ V1, V1 = wr.setCell ⟨wa.heap.size + 1, 3, none⟩ (.int .i64 (hi + ks)) := ⟨_, rfl⟩
        have hV1' : wr.setCell ⟨wa.heap.size + 1, 3, none⟩ (.int .i64 (hi + ks)) = V1 := hV1.symm
        obtain ⟨V2, hV2⟩ : ∃ V2, V2 = (V1.setCell ⟨wa.heap.size + 1, 5, none⟩ (.int .i64 ((i : Int) + 1 + kj))).drew := ⟨_, rfl⟩
        have hV2' : (V1.setCell ⟨wa.heap.size + 1, 5, none⟩ (.int .i64 ((i : Int) + 1 + kj))).drew = V2 := hV2.symm
        obtain ⟨V3, hV3⟩ : ∃ V3, V3 = (V2.setCell ⟨wa.heap.size + 1, 4, none⟩ (.int .i64 ((i : Int) + 1 + kj + 1 + kx))).drew := ⟨_, rfl⟩
        have hV3' : (V2.setCell ⟨wa.heap.size + 1, 4, none⟩ (.int .i64 ((i : Int) + 1 + kj + 1 + kx))).drew = V3 := hV3.symm
        have M1 : MB V1 (wa.heap.size + 1) [64 * (1 + k16), CC, 1 + k2, hi + ks, 0, 0] (.slice la i c) := by rw [hV1]; exact Nb.set mb 3 (by simp) _
        have M2 : MB V2 (wa.heap.size + 1) [64 * (1 + k16), CC, 1 + k2, hi + ks, 0, (i : Int) + 1 + kj] (.slice la i c) := by rw [hV2]; exact Nb.set M1 5 (by simp) _
        have M3 : MB V3 (wa.heap.size + 1) [64 * (1 + k16), CC, 1 + k2, hi + ks, (i : Int) + 1 + kj + 1 + kx, (i : Int) + 1 + kj] (.slice la i c) := by rw [hV3]; exact Nb.set M2 4 (by simp) _
        have t1 : Stay (fun k => k = wa.heap.size + 1) wr V1 := by rw [hV1]; exact Stay.setCell (F := fun k => k = wa.heap.size + 1) (p := ⟨wa.heap.size + 1, 3, none⟩) (Stay.refl _ wr) (fun _ => rfl) _
        have t2 : Stay (fun k => k = wa.heap.size + 1) wr V2 := by rw [hV2]; exact (t1.setCell (p := ⟨wa.heap.size + 1, 5, none⟩) (fun _ => rfl) _).drew
        have t3 : Stay (fun k => k = wa.heap.size + 1) wr V3 := by rw [hV3]; exact (t2.setCell (p := ⟨wa.heap.size + 1, 4, none⟩) (fun _ => rfl) _).drew
        have hF : ∀ k, k < wa.heap.size → ¬ k = wa.heap.size + 1 := fun k hk h => by omega
        have d1 := bw.trans (t1.toBelow (B := wa.heap.size) hF bw.size)
        have d2 := bw.trans (t2.toBelow (B := wa.heap.size) hF bw.size)
        have d3 := bw.trans (t3.toBelow (B := wa.heap.size) hF bw.size)
        have Z3 : Zr V3 wa.heap.size := (t3.block _ (by omega) (by omega)).trans zr
        have l3 := sm 3 _ rfl
        have l5 := HSA.out.lat d1 5 _ rfl
        have l4 := HSA.out.lat d2 4 _ rfl
        have e3 := Nb.cell mb 3 (by simp)
        have f3 := Nb.free mb 3
        have e6 := MB.cell6 M1 rfl
        have e5 := Nb.cell M1 5 (by simp)
        have f5 := Nb.free M1 5
        have e45 := Nb.cell M2 5 (by simp)
        have e4 := Nb.cell M2 4 (by simp)
        have f4 := Nb.free M2 4
        obtain ⟨m0, m1, m2, m3, m4, m5, m6⟩ := mb_cells M3
        obtain ⟨c0, c1, c2, c3, c4, c5, c6, cf⟩ := zr_cells Z3
        simp only [List.getElem_cons_succ, List.getElem_cons_zero] at e3 e5 e45 e4
        have ww1 : IntKind.i64.wrap ((i : Int) + 1) = (i : Int) + 1 := by rw [IntKind.wrap_i64]; omega
        have ww2 : IntKind.i64.wrap ((i : Int) + 1 + kj) = (i : Int) + 1 + kj := by rw [IntKind.wrap_i64]; omega
        have ww3 : IntKind.i64.wrap ((i : Int) + 1 + kj + 1) = (i : Int) + 1 + kj + 1 := by rw [IntKind.wrap_i64]; omega
        have ww4 : IntKind.i64.wrap ((i : Int) + 1 + kj + 1 + kx) = (i : Int) + 1 + kj + 1 + kx := by rw [IntKind.wrap_i64]; omega
        have HF := Hid.mk (And.intro ow (And.intro own (And.intro t3 (And.intro d3 (And.intro Z3 (And.intro hgM hpre))))))
        have HBA := Hid.mk ba
        clear S0 S1 HGO hgo mb ow own zr sm M1 M2 M3 t1 t2 t3 hF d1 d2 d3 Z3 hgM hpre e hks hkj hkx hV1 hV2 hV3 ba
        rcases hend with hn | ⟨hlm, hn⟩
        all_goals
          go_wp2_with (go_at_call 8; refine (q1 _).mono ?_; rintro e w' ⟨rfl, rfl⟩; clear q1)
          clear hV1'
          refine' via ?_ ?_
          rotate_left 2
          · intro hvia
            go_region_with (go_at_call 8; refine (q2 _).mono ?_; rintro e w' ⟨rfl, rfl⟩)
            all_goals exact hvia.down
          try simp only [ww1, ww2, hV2']
          clear q2 l5 e6 e5 f5
          go_wp2
          clear hV2'
          refine' via ?_ ?_
          rotate_left 2
          · intro hvia
            go_region_with (go_at_call 8; refine (q3 _).mono ?_; rintro e w' ⟨rfl, rfl⟩)
            all_goals exact hvia.down
          try simp only [ww3, ww4, hV3']
          clear q3 l4 e45 e4 f4
          go_wp2
          obtain ⟨ow, own, t3, d3, Z3, hgM, hpre⟩ := HF.out
          obtain ⟨W5, hW5, st5, p0, p1, p2, p3, p4, p5, p6⟩ := fin7 Z3 (.int .i64 (64 * (1 + k16))) (.int .i64 CC) (.int .i64 (1 + k2)) (.int .i64 (hi + ks)) (.int .i64 ((i : Int) + 1 + kj + 1 + kx)) (.int .i64 ((i : Int) + 1 + kj)) (.slice la i c)
          unfold set7 at hW5
          rw [hW5]
          refine bodyPost_ret (v := .agg #[.int .i64 (64 * (1 + k16)), .int .i64 CC, .int .i64 (1 + k2), .int .i64 (hi + ks), .int .i64 ((i : Int) + 1 + kj + 1 + kx), .int .i64 ((i : Int) + 1 + kj), .slice la i c]) (by simp [results, Tryz.results5, go_sem, p0, p1, p2, p3, p4, p5, p6]; try rfl) rfl ?_
          have d5 : Below wa.heap.size wa W5 := d3.trans (st5.toBelow (B := wa.heap.size) (fun k hk h => by (have h' : k = wa.heap.size := h; omega)) d3.size)
          rw [hgM]
          refine ⟨la, c, by simp only [hpre], ?_, ?_, chain HBA.out d5 (Nat.le_refl _)⟩
          · simp only [hpre]
            exact row_kept (F := fun k => k = wa.heap.size) (row_kept (F := fun k => k = wa.heap.size + 1) ow t3 (fun k hk h => by (have h2 : k = wa.heap.size + 1 := h; have := own k hk; omega))) st5 (fun k hk h => by (have h2 : k = wa.heap.size := h; have := own k hk; omega))
          · simp only [hpre]
            exact fun k hk => by have := own k hk; omega
end Go.Proofs.YtkoannkecojhmaaGreatDoor
