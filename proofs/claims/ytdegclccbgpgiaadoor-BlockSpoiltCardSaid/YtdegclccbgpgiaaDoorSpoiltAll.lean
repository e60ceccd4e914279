/-
  DERIVED. SBurst, BSp, BWide, BSpW, SpoiltRow, as one text.
-/
import Derived.Test.YtdegclccbgpgiaaDoorSPm
import Derived.Test.YtdegclccbgpgiaaDoorBRd2
import Derived.Test.YtdegclccbgpgiaaDoorBkA
import Derived.Test.YtdegclccbgpgiaaDoorBBuild
import Derived.Lib.FrozenHead
import Derived.Test.YtdegclccbgpgiaaDoorBkB
import Derived.Test.YtdegclccbgpgiaaDoorSTable
import Derived.Test.YtdegclccbgpgiaaDoorBkC
import Derived.ChangeMaps5
namespace Go.Proofs.YtdegclccbgpgiaaDoor
open Go.RowKit Go.Proofs.SealMath
theorem st_zero {r : Nat} (h : r < 4294967296) (h0 : st r = 0) : r = 0 := by
  unfold st at h0
  split at h0
  · have h1 : (r / 2 ^^^ 2197175160).testBit 31 = true := by
      rw [Nat.testBit_xor, Nat.testBit_lt_two_pow (show r / 2 < 2 ^ 31 by omega)]; decide
    rw [h0] at h1; simp at h1
  · omega
theorem stN_zero (m : Nat) : ∀ {r : Nat}, r < 4294967296 → stN m r = 0 → r = 0 := by
  induction m with
  | zero => intro r _ h; exact h
  | succ m ih => intro r h h0; exact st_zero h (ih (st_lt h) h0)
theorem stN_nil (m : Nat) : stN m 0 = 0 := by
  induction m with
  | zero => rfl
  | succ m ih => exact ih
/-- A burst: not told by no number of shifts. -/
theorem burst (m j q : Nat) (hq : q < 4294967296) (h : stN m (2 ^ j * q) = 0) : 2 ^ j * q = 0 := by
  by_cases hm : j ≤ m
  · obtain ⟨d, rfl⟩ : ∃ d, m = j + d := ⟨m - j, by omega⟩
    rw [stN_add, stN_pow] at h
    rw [stN_zero d hq h, Nat.mul_zero]
  · obtain ⟨d, rfl⟩ : ∃ d, j = m + d := ⟨j - m, by omega⟩
    rw [Nat.pow_add, Nat.mul_assoc, stN_pow] at h
    rw [Nat.pow_add, Nat.mul_assoc, h, Nat.mul_zero]
theorem burst_mod (m M j q : Nat) (hq : q < 4294967296) (h : stN m (2 ^ j * q % 2 ^ M) = 0) : 2 ^ j * q % 2 ^ M = 0 := by
  by_cases hj : j ≤ M
  · obtain ⟨d, rfl⟩ : ∃ d, M = j + d := ⟨M - j, by omega⟩
    rw [Nat.pow_add, Nat.mul_mod_mul_left] at h ⊢
    exact burst m j _ (Nat.lt_of_le_of_lt (Nat.mod_le _ _) hq) h
  · obtain ⟨d, rfl⟩ : ∃ d, j = M + d := ⟨j - M, by omega⟩
    rw [Nat.pow_add, Nat.mul_assoc, Nat.mul_mod_right]
theorem burst_div (m M j q : Nat) (hq : q < 4294967296) (h : stN m (2 ^ j * q / 2 ^ M) = 0) : 2 ^ j * q / 2 ^ M = 0 := by
  by_cases hj : j ≤ M
  · obtain ⟨d, rfl⟩ : ∃ d, M = j + d := ⟨M - j, by omega⟩
    rw [Nat.pow_add, Nat.mul_div_mul_left _ _ (Nat.two_pow_pos j)] at h ⊢
    have := burst m 0 (q / 2 ^ d) (Nat.lt_of_le_of_lt (Nat.div_le_self _ _) hq) (by rw [Nat.pow_zero, Nat.one_mul]; exact h)
    rwa [Nat.pow_zero, Nat.one_mul] at this
  · obtain ⟨d, rfl⟩ : ∃ d, j = M + d := ⟨j - M, by omega⟩
    rw [Nat.pow_add, Nat.mul_assoc, Nat.mul_div_cancel_left _ (Nat.two_pow_pos M)] at h ⊢
    exact burst m d q hq h
/-- A text as one number, its first byte the lowest. -/
def leN : List UInt8 → Nat
  | [] => 0
  | c :: l => c.toNat + 256 * leN l
theorem le_xor (c m : Nat) (hc : c < 256) : c + 256 * m = (256 * m) ^^^ c := by
  have h := cut_xor 8 (c + 256 * m)
  rw [show (c + 256 * m) / 2 ^ 8 = m by omega, show (c + 256 * m) % 2 ^ 8 = c by omega] at h
  exact h
theorem leN_lt (l : List UInt8) : leN l < 2 ^ (8 * l.length) := by
  induction l with
  | nil => exact Nat.one_pos
  | cons c l ih =>
    have hc := c.toNat_lt
    have e : 2 ^ (8 * (c :: l).length) = 256 * 2 ^ (8 * l.length) := by rw [List.length_cons, Nat.mul_add, Nat.pow_add, Nat.mul_comm]
    rw [leN, e]; omega
theorem regs_le (l : List UInt8) : ∀ r, regs r l = stN (8 * l.length) (r ^^^ leN l) := by
  induction l with
  | nil => intro r; show r = r ^^^ 0; rw [Nat.xor_zero]
  | cons c l ih =>
    intro r
    rw [regs_cons, ih, List.length_cons, Nat.mul_add, Nat.add_comm (8 * l.length), stN_add, leN, le_xor _ _ c.toNat_lt, Nat.xor_comm (256 * leN l), ← Nat.xor_assoc, stN_xor 8 (r ^^^ c.toNat), show (256 : Nat) = 2 ^ 8 from rfl, stN_pow, rb_def]
theorem leN_inj : ∀ (l m : List UInt8), l.length = m.length → leN l = leN m → l = m
  | [], [], _, _ => rfl
  | c :: l, d :: m, h, e => by
    have hc := c.toNat_lt; have hd := d.toNat_lt
    rw [leN, leN] at e
    have e1 : c.toNat = d.toNat := by omega
    have e2 : leN l = leN m := by omega
    rw [UInt8.toNat_inj.1 e1, leN_inj l m (by simpa using h) e2]
theorem leN_take (l : List UInt8) : ∀ n, leN (l.take n) = leN l % 2 ^ (8 * n) := by
  induction l with
  | nil => intro n; rw [List.take_nil]; exact (Nat.zero_mod _).symm
  | cons c l ih =>
    intro n
    cases n with
    | zero => show 0 = _; rw [Nat.mul_zero, Nat.pow_zero, Nat.mod_one]
    | succ n =>
      have hc := c.toNat_lt
      have e : 2 ^ (8 * (n + 1)) = 256 * 2 ^ (8 * n) := by rw [Nat.mul_add, Nat.pow_add, Nat.mul_comm]
      rw [List.take_succ_cons, leN, leN, ih, e, Nat.mod_mul, show (c.toNat + 256 * leN l) % 256 = c.toNat by omega, show (c.toNat + 256 * leN l) / 256 = leN l by omega]
theorem leN_drop (l : List UInt8) : ∀ n, leN (l.drop n) = leN l / 2 ^ (8 * n) := by
  induction l with
  | nil => intro n; rw [List.drop_nil]; exact (Nat.zero_div _).symm
  | cons c l ih =>
    intro n
    cases n with
    | zero => rw [Nat.mul_zero, Nat.pow_zero, Nat.div_one]; rfl
    | succ n =>
      have hc := c.toNat_lt
      have e : 2 ^ (8 * (n + 1)) = 256 * 2 ^ (8 * n) := by rw [Nat.mul_add, Nat.pow_add, Nat.mul_comm]
      rw [List.drop_succ_cons, leN, ih, e, ← Nat.div_div_eq_div_mul, show (c.toNat + 256 * leN l) / 256 = leN l by omega]
theorem leN_low (s : Nat) (hs : s < 4294967296) : leN (lowL s) = s := by
  simp only [lowL, leN, u8n]; omega
theorem leN_set : ∀ (l : List UInt8) (j i : Nat) (c : UInt8), j < l.length → i < 8 → c.toNat = (l.getD j 0).toNat ^^^ 2 ^ i → leN (l.set j c) = leN l ^^^ 2 ^ (8 * j + i)
  | [], j, i, c, h, _, _ => by simp at h
  | d :: l, 0, i, c, _, hi, hc => by
    have hd := d.toNat_lt
    have hcl := c.toNat_lt
    rw [show ((d :: l).getD 0 0) = d from rfl] at hc
    rw [List.set_cons_zero, leN, leN, le_xor _ _ hcl, le_xor _ _ hd, hc, Nat.mul_zero, Nat.zero_add, Nat.xor_assoc]
  | d :: l, j + 1, i, c, h, hi, hc => by
    have hd := d.toNat_lt
    rw [List.set_cons_succ, leN, leN, leN_set l j i c (by simpa using h) hi hc, le_xor _ _ hd, le_xor _ _ hd]
    have e : 256 * (leN l ^^^ 2 ^ (8 * j + i)) = 256 * leN l ^^^ 2 ^ (8 * (j + 1) + i) := by
      have h1 := Nat.shiftLeft_xor_distrib (a := leN l) (b := 2 ^ (8 * j + i)) (i := 8)
      rw [Nat.shiftLeft_eq, Nat.shiftLeft_eq, Nat.shiftLeft_eq] at h1
      rw [show (256 : Nat) = 2 ^ 8 from rfl, Nat.mul_comm, h1, Nat.mul_comm, ← Nat.pow_add, show 8 * j + i + 8 = 8 * (j + 1) + i by omega]
    rw [e, Nat.xor_assoc, Nat.xor_assoc, Nat.xor_comm (2 ^ (8 * (j + 1) + i))]
/-- Two texts of one length, that many bits apart: their sums are apart too. -/
theorem regs_apart (r : Nat) (l m : List UInt8) (D : Nat) (hl : m.length = l.length) (hD : leN m = leN l ^^^ D) : regs r m = regs r l ^^^ stN (8 * l.length) D := by
  rw [regs_le, regs_le, hl, hD, ← Nat.xor_assoc, stN_xor]
theorem xor_eq_zero {a b : Nat} (h : a = a ^^^ b) : b = 0 := by
  have := congrArg (fun x => a ^^^ x) h
  simpa [← Nat.xor_assoc] using this.symm
theorem crc_apart (l m : List UInt8) (j q : Nat) (hq : q < 4294967296) (h0 : q ≠ 0) (hl : m.length = l.length) (hD : leN m = leN l ^^^ (2 ^ j * q)) : crc 0 m ≠ crc 0 l := by
  intro e
  have e1 : regs (0 ^^^ 4294967295) m = regs (0 ^^^ 4294967295) l := by
    unfold crc at e
    have := congrArg (fun x => x ^^^ 4294967295) e
    simpa only [SealMath.flip_flip] using this
  rw [regs_apart _ l m _ hl hD] at e1
  have := burst _ _ _ hq (xor_eq_zero e1.symm)
  have hp := Nat.two_pow_pos j
  rcases Nat.mul_eq_zero.1 this with h | h <;> omega
/-- A text with its own sum behind it. -/
theorem own_sum (l : List UInt8) : regs 4294967295 (l ++ lowL (crc 0 l)) = stN 32 4294967295 := by
  rw [regs_append, regs_le, leN_low _ (crc_lt _ (by omega)), lowL_len]
  have e : regs 4294967295 l ^^^ crc 0 l = 4294967295 := by
    unfold crc
    rw [Nat.zero_xor, ← Nat.xor_assoc, Nat.xor_self, Nat.zero_xor]
  rw [e]
theorem hdL_inj (k k' n n' : Nat) (hn : n < 4294967296) (hn' : n' < 4294967296) (h : hdL k' n' = hdL k n) : n' = n := by
  unfold hdL at h
  have h1 := (List.cons.inj (List.cons.inj h).2).2
  rw [← num_fix n' hn', h1, num_fix n hn]
/-- A spoilt frame is refused. -/
theorem spoilt (k : Nat) (p T y : List UInt8) (j q : Nat) (b : ByteArray) (hp : p.length ≤ 65536) (hq : q < 4294967296) (h0 : q ≠ 0) (hT : T.length = (frL k p).length) (hD : leN T = leN (frL k p) ^^^ (2 ^ j * q)) (hb : b.data.toList = T ++ y) :
    (psA b 0).2.2.2 ≠ 0 := by
  intro h
  obtain ⟨k', p', _, _, hp', hsz, _, hsub⟩ := psA_yes b 0 h
  have hlen := frL_len k p
  have hd := hdL_len k p.length
  have hd' := hdL_len k' p'.length
  have hbs : b.size = T.length + y.length := by rw [ba_size, hb, List.length_append]
  -- the first ten bytes
  have s10 : (frL k p).take 10 = hdL k p.length ++ lowL (crc 0 (hdL k p.length)) := by
    unfold frL
    rw [List.append_assoc, List.take_append_of_le_length (by simp [hd, lowL_len]), List.take_of_length_le (by simp [hd, lowL_len])]
  have t10 : T.take 10 = hdL k' p'.length ++ lowL (crc 0 (hdL k' p'.length)) := by
    have h1 := sub_part b 0 _ 0 10 _ hsub (by omega)
    have h2 : sub b (0 + 0) 10 = T.take 10 := by
      unfold sub; rw [hb, List.drop_zero, List.take_append_of_le_length (by omega)]
    rw [← h2, h1, List.drop_zero]; unfold frL
    rw [List.append_assoc, List.take_append_of_le_length (by simp [hd', lowL_len]), List.take_of_length_le (by simp [hd', lowL_len])]
  have d10 : leN (T.take 10) = leN ((frL k p).take 10) ^^^ (2 ^ j * q % 2 ^ 80) := by
    rw [leN_take, leN_take, hD, Nat.xor_mod_two_pow]
  have l10 : ((frL k p).take 10).length = 10 := by rw [List.length_take]; omega
  have m10 : (T.take 10).length = 10 := by rw [List.length_take]; omega
  have r10 := regs_apart 4294967295 _ _ _ (m10.trans l10.symm) d10
  have z10 : 2 ^ j * q % 2 ^ 80 = 0 := by
    rw [t10, s10, own_sum, own_sum] at r10
    exact burst_mod _ 80 j q hq (xor_eq_zero r10)
  rw [z10, Nat.xor_zero] at d10
  have same := leN_inj _ _ (m10.trans l10.symm) d10
  rw [t10, s10] at same
  have hhd : hdL k' p'.length = hdL k p.length := by
    have := congrArg (List.take 6) same
    rwa [List.take_append_of_le_length (by omega), List.take_append_of_le_length (by omega), List.take_of_length_le (by omega), List.take_of_length_le (by omega)] at this
  have hpn := hdL_inj k k' p.length p'.length (by omega) (by omega) hhd
  -- the payload and its sum
  have sd : (frL k p).drop 10 = p ++ lowL (crc 0 (hdL k p.length ++ p)) := by
    unfold frL
    rw [List.append_assoc, List.drop_append_of_le_length (by simp [hd, lowL_len]), List.drop_of_length_le (by simp [hd, lowL_len]), List.nil_append]
  have td : T.drop 10 = p' ++ lowL (crc 0 (hdL k p.length ++ p')) := by
    have h2 : sub b 0 (p'.length + 14) = T := by
      unfold sub; rw [hb, List.drop_zero, List.take_append_of_le_length (by omega), List.take_of_length_le (by omega)]
    rw [← h2, hsub]; unfold frL
    rw [hhd, List.append_assoc, List.drop_append_of_le_length (by simp [hd, lowL_len]), List.drop_of_length_le (by simp [hd, lowL_len]), List.nil_append]
  have dd : leN (T.drop 10) = leN ((frL k p).drop 10) ^^^ (2 ^ j * q / 2 ^ 80) := by
    rw [leN_drop, leN_drop, hD, Nat.xor_div_two_pow]
  have rd := regs_apart (regs 4294967295 (hdL k p.length)) _ _ _ (by rw [List.length_drop, List.length_drop, hT]) dd
  have zd : 2 ^ j * q / 2 ^ 80 = 0 := by
    rw [td, sd, ← regs_append, ← regs_append, ← List.append_assoc, ← List.append_assoc, own_sum, own_sum] at rd
    exact burst_div _ 80 j q hq (xor_eq_zero rd)
  have hz : 2 ^ j * q = 0 := by
    have := Nat.div_add_mod (2 ^ j * q) (2 ^ 80)
    rw [zd, z10] at this; omega
  have hpz := Nat.two_pow_pos j
  rcases Nat.mul_eq_zero.1 hz with h | h <;> omega
end Go.Proofs.YtdegclccbgpgiaaDoor
set_option linter.unusedVariables false
set_option linter.unusedSimpArgs false
namespace Go.Proofs.YtdegclccbgpgiaaDoor
open Go.RowKit Go.Proofs.SealMath
theorem leN_xor : ∀ (l : List UInt8) (j : Nat) (c y : UInt8), j < l.length → c.toNat = (l.getD j 0).toNat ^^^ y.toNat → leN (l.set j c) = leN l ^^^ (2 ^ (8 * j) * y.toNat)
  | [], j, c, y, h, _ => by simp at h
  | d :: l, 0, c, y, _, hc => by
    have hd := d.toNat_lt
    have hcl := c.toNat_lt
    rw [show ((d :: l).getD 0 0) = d from rfl] at hc
    rw [List.set_cons_zero, leN, leN, le_xor _ _ hcl, le_xor _ _ hd, hc, Nat.mul_zero, Nat.pow_zero, Nat.one_mul, Nat.xor_assoc]
  | d :: l, j + 1, c, y, h, hc => by
    have hd := d.toNat_lt
    rw [List.set_cons_succ, leN, leN, leN_xor l j c y (by simpa using h) hc, le_xor _ _ hd, le_xor _ _ hd]
    have e : 256 * (leN l ^^^ 2 ^ (8 * j) * y.toNat) = 256 * leN l ^^^ 2 ^ (8 * (j + 1)) * y.toNat := by
      have h1 := Nat.shiftLeft_xor_distrib (a := leN l) (b := 2 ^ (8 * j) * y.toNat) (i := 8)
      rw [Nat.shiftLeft_eq, Nat.shiftLeft_eq, Nat.shiftLeft_eq] at h1
      rw [show (256 : Nat) = 2 ^ 8 from rfl, Nat.mul_comm, h1, Nat.mul_comm, Nat.mul_add, Nat.pow_add, Nat.mul_right_comm]
    rw [e, Nat.xor_assoc, Nat.xor_assoc, Nat.xor_comm (2 ^ (8 * (j + 1)) * y.toNat)]
/-- Frames one behind the other. -/
def frs (fs : List (Nat × List UInt8)) : List UInt8 := fs.flatMap fun x => frL x.1 x.2
theorem frs_cons (x : Nat × List UInt8) (fs : List (Nat × List UInt8)) : frs (x :: fs) = frL x.1 x.2 ++ frs fs := by simp [frs]
structure FOk (x : Nat × List UInt8) : Prop where
  k1 : 1 ≤ x.1
  k2 : x.1 ≤ 255
  p : x.2.length ≤ 65536
theorem fr_ps {x : Nat × List UInt8} (hx : FOk x) (A : List UInt8) : psA ⟨(frL x.1 x.2 ++ A).toArray⟩ 0 = (x.1, x.2, 0 + (x.2.length + 14), 0) := by
  refine psA_frame _ 0 x.1 x.2 hx.k1 hx.k2 hx.p ?_ ?_
  · rw [ba_len, List.length_append, frL_len]; omega
  · unfold sub
    show (List.drop 0 (frL x.1 x.2 ++ A)).take _ = _
    rw [List.drop_zero, List.take_append_of_le_length (by rw [frL_len]; omega), List.take_of_length_le (by rw [frL_len]; omega)]
theorem fr_det {x y : Nat × List UInt8} (hx : FOk x) (hy : FOk y) {A B : List UInt8} (h : frL x.1 x.2 ++ A = frL y.1 y.2 ++ B) : x = y ∧ A = B := by
  have h1 := fr_ps hx A
  rw [h, fr_ps hy B] at h1
  simp only [Prod.mk.injEq] at h1
  have e : x = y := Prod.ext h1.1.symm h1.2.1.symm
  subst e
  exact ⟨rfl, List.append_cancel_left h⟩
theorem fr_pos (x : Nat × List UInt8) (fs : List (Nat × List UInt8)) : 0 < (frs (x :: fs)).length := by
  rw [frs_cons, List.length_append, frL_len]; omega
theorem frs_pre : ∀ fs gs : List (Nat × List UInt8), (∀ x ∈ fs, FOk x) → (∀ x ∈ gs, FOk x) → frs fs <+: frs gs → fs <+: gs
  | [], gs, _, _, _ => List.nil_prefix
  | x :: fs, [], _, _, h => by
    have h1 := h.length_le
    have h2 := fr_pos x fs
    have h3 : (frs []).length = 0 := rfl
    omega
  | x :: fs, y :: gs, hx, hy, h => by
    obtain ⟨t, ht⟩ := h
    rw [frs_cons, frs_cons, List.append_assoc] at ht
    obtain ⟨e, h2⟩ := fr_det (hx x (by simp)) (hy y (by simp)) ht
    subst e
    have := frs_pre fs gs (fun z hz => hx z (List.mem_cons_of_mem _ hz)) (fun z hz => hy z (List.mem_cons_of_mem _ hz)) ⟨t, h2⟩
    obtain ⟨s, hs⟩ := this
    exact ⟨s, by rw [List.cons_append, hs]⟩
theorem frs_one : ∀ (fs gs : List (Nat × List UInt8)) (q : Nat) (c y : UInt8), (∀ x ∈ fs, FOk x) → (∀ x ∈ gs, FOk x) → q < (frs fs).length → c.toNat = ((frs fs).getD q 0).toNat ^^^ y.toNat → y ≠ 0 → frs gs = (frs fs).set q c → False
  | [], gs, q, c, y, _, _, hq, _, _, _ => by simp [frs] at hq
  | x :: fs, [], q, c, y, _, _, hq, _, _, h => by
    have h1 := congrArg List.length h
    rw [List.length_set] at h1
    have h3 : (frs []).length = 0 := rfl
    omega
  | x :: fs, z :: gs, q, c, y, hx, hz, hq, hc, hy, h => by
    rw [frs_cons] at hq hc h
    rw [frs_cons] at h
    by_cases hl : q < (frL x.1 x.2).length
    · rw [List.set_append_left _ _ hl] at h
      have hc' : c.toNat = ((frL x.1 x.2).getD q 0).toNat ^^^ y.toNat := by
        rw [hc]
        simp only [List.getD_eq_getElem?_getD, List.getElem?_append_left hl]
      have hy0 : y.toNat ≠ 0 := fun e => hy (by apply UInt8.toNat_inj.1; rw [e]; rfl)
      have hyl := y.toNat_lt
      refine spoilt x.1 x.2 ((frL x.1 x.2).set q c) (frs fs) (8 * q) y.toNat ⟨(frL z.1 z.2 ++ frs gs).toArray⟩ (hx x (by simp)).p (by omega) hy0 (by rw [List.length_set]) (leN_xor _ _ _ _ hl hc') h ?_
      rw [fr_ps (hz z (by simp))]
    · have hl' : (frL x.1 x.2).length ≤ q := by omega
      rw [List.set_append_right _ _ hl'] at h
      obtain ⟨e, h2⟩ := fr_det (hz z (by simp)) (hx x (by simp)) h
      rw [List.length_append] at hq
      refine frs_one fs gs (q - (frL x.1 x.2).length) c y (fun w hw => hx w (List.mem_cons_of_mem _ hw)) (fun w hw => hz w (List.mem_cons_of_mem _ hw)) (by omega) ?_ hy h2
      rw [hc]
      simp only [List.getD_eq_getElem?_getD, List.getElem?_append_right hl']
/-- A file's frames. -/
def fsI (h : Hd) (l : List En) : List (Nat × List UInt8) := (4, hdB h l.length) :: (((pk enB l).map fun p => (5, p.2.flatMap enB)) ++ (pk lnB (idx h l)).map fun p => (6, p.2.flatMap lnB))
def fsF (h : Hd) (l : List En) : List (Nat × List UInt8) := fsI h l ++ [(7, ftB h l)]
theorem fileT_frs (h : Hd) (l : List En) : fileT h l = frs (fsF h l) := by
  unfold fileT hbT hdF fsF fsI blkL frs
  simp [List.flatMap_map]
theorem fsI_ne (h : Hd) (l : List En) : ∀ x ∈ fsI h l, x.1 ≠ 7 := by
  intro x hx
  unfold fsI at hx
  simp only [List.mem_cons, List.mem_append, List.mem_map] at hx
  rcases hx with rfl | ⟨p, -, rfl⟩ | ⟨p, -, rfl⟩ <;> simp
theorem fsF_ok {h : Hd} {l : List En} (e : bdE h l = 0) : ∀ x ∈ fsF h l, FOk x := by
  obtain ⟨hh, hn, hls, hok⟩ := bdE_ok e
  obtain ⟨k1, k2, k3⟩ := hbT_len h l hok hn
  intro x hx
  unfold fsF fsI at hx
  simp only [List.mem_cons, List.mem_append, List.mem_map, List.mem_singleton, List.not_mem_nil, or_false] at hx
  rcases hx with (rfl | ⟨p, hp, rfl⟩ | ⟨p, hp, rfl⟩) | rfl
  · exact ⟨by simp, by simp, by have := hdB_len h l.length; show (hdB h l.length).length ≤ 65536; omega⟩
  · refine ⟨by simp, by simp, ?_⟩
    have := (pk_spec enB l (fun q hq => by have := (enB_len q).1; have := (hok q hq).c; omega) p hp).2.1
    unfold ln at this
    show (p.2.flatMap enB).length ≤ 65536
    omega
  · refine ⟨by simp, by simp, ?_⟩
    have := (pk_spec lnB (idx h l) (fun q hq => okL_len (k3 q hq)) p hp).2.1
    unfold ln at this
    show (p.2.flatMap lnB).length ≤ 65536
    omega
  · exact ⟨by simp, by simp, by have := ftB_len h l; show (ftB h l).length ≤ 65536; omega⟩
/-- Of two files none begins the other. -/
theorem file_pre {h h' : Hd} {l l' : List En} (e : bdE h l = 0) (e' : bdE h' l' = 0) (hp : fileT h' l' <+: fileT h l) : fileT h' l' = fileT h l := by
  rw [fileT_frs, fileT_frs] at hp ⊢
  have h1 := frs_pre _ _ (fsF_ok e') (fsF_ok e) hp
  obtain ⟨t, ht⟩ := h1
  cases t with
  | nil => rw [List.append_nil] at ht; rw [ht]
  | cons x t =>
    exfalso
    have hmem : (7, ftB h' l') ∈ fsI h l := by
      have h2 : (fsF h l).dropLast = fsI h l := by unfold fsF; simp
      rw [← h2, ← ht]
      unfold fsF
      rw [List.dropLast_append_of_ne_nil (by simp)]
      simp
    exact fsI_ne h l _ hmem rfl
theorem file_one {h h' : Hd} {l l' : List En} (e : bdE h l = 0) (e' : bdE h' l' = 0) (q : Nat) (c y : UInt8) (hq : q < (fileT h l).length) (hc : c.toNat = ((fileT h l).getD q 0).toNat ^^^ y.toNat) (hy : y ≠ 0) (hs : fileT h' l' = (fileT h l).set q c) : False := by
  rw [fileT_frs h l] at hq hc hs
  rw [fileT_frs] at hs
  exact frs_one _ _ q c y (fsF_ok e) (fsF_ok e') hq hc hy hs
theorem opA_no {b : ByteArray} (h : ∀ h' l', bdE h' l' = 0 → b.data.toList ≠ fileT h' l') : opA b = none := by
  cases hO : opA b with
  | none => rfl
  | some x =>
    obtain ⟨h7, bl7⟩ := x
    obtain ⟨-, hz, hfT⟩ := opA_some hO
    exact absurd hfT.symm (h _ _ hz)
/-- Its end cut off. -/
theorem op_cut {h : Hd} {l : List En} (e : bdE h l = 0) (b : ByteArray) (k : Nat) (hk : k < (fileT h l).length) (hb : b.data.toList = (fileT h l).take k) : opA b = none :=
  opA_no fun h' l' e' hbe => by
    rw [hb] at hbe
    have h1 := file_pre e e' (by rw [← hbe]; exact List.take_prefix _ _)
    have h2 := congrArg List.length hbe
    rw [h1, List.length_take] at h2
    omega
/-- A byte behind. -/
theorem op_more {h : Hd} {l : List En} (e : bdE h l = 0) (b : ByteArray) (c : UInt8) (hb : b.data.toList = fileT h l ++ [c]) : opA b = none :=
  opA_no fun h' l' e' hbe => by
    rw [hb] at hbe
    have h1 := file_pre e' e (by rw [← hbe]; exact List.prefix_append _ _)
    have h2 := congrArg List.length hbe
    rw [h1, List.length_append] at h2
    simp at h2
/-- A byte another one. -/
theorem op_one {h : Hd} {l : List En} (e : bdE h l = 0) (b : ByteArray) (q : Nat) (c y : UInt8) (hq : q < (fileT h l).length) (hc : c.toNat = ((fileT h l).getD q 0).toNat ^^^ y.toNat) (hy : y ≠ 0) (hb : b.data.toList = (fileT h l).set q c) : opA b = none :=
  opA_no fun h' l' e' hbe => file_one e e' q c y hq hc hy (by rw [← hbe, hb])
theorem file_len2 (h : Hd) (l : List En) (e : bdE h l = 0) : (fileT h l).length ≤ 17179869184 := by
  obtain ⟨hh, hn, hls, hok⟩ := bdE_ok e
  obtain ⟨k1, k2, k3⟩ := hbT_len h l hok hn
  have hf := ftB_len h l
  have h6 := blkL_len lnB 6 (pk lnB (idx h l))
  rw [pk_flat] at h6
  have h7 := pk_len lnB (idx h l) (fun y hy => okL_len (k3 y hy))
  have h8 : ln lnB (idx h l) ≤ 4096 * (idx h l).length := ln_le lnB 4096 (idx h l) (fun y hy => okL_len (k3 y hy))
  unfold fileT
  rw [List.length_append, List.length_append, frL_len, h6]
  omega
end Go.Proofs.YtdegclccbgpgiaaDoor
set_option linter.unusedVariables false
set_option linter.unusedSimpArgs false
namespace Go.Proofs.YtdegclccbgpgiaaDoor
open Go.RowKit
theorem store_free (P : Program) (g o : Nat) (t : TypeId) (fz : Nat × Nat) : ∀ (vs : List Value) (i : Nat) (cur : Array Value) (w : World), w.heap[g]? = some (.cells cur t fz) → (cur.size ≤ fz.1 ∨ fz.2 = 0) → o + i + vs.length ≤ cur.size → (∀ v ∈ vs, v.oneCell' = true) →
    (storeCells ⟨g, o, none⟩ vs i).run P w = .ok () (w.setRow g (cur.toList.take (o + i) ++ vs ++ cur.toList.drop (o + i + vs.length)).toArray)
  | [], i, cur, w, hg, _, _, _ => by
    simp only [storeCells, List.append_nil, List.length_nil, Nat.add_zero, List.take_append_drop, Array.toArray_toList]
    rw [setRow_self w g cur t fz hg]; rfl
  | v :: rest, i, cur, w, hg, hfz, hl, h1 => by
    have hi : o + i < cur.size := by simp at hl; omega
    have e1 : (⟨g, o, none⟩ : Addr).add i = ⟨g, o + i, none⟩ := by unfold Addr.add; split <;> simp_all
    have e2 : w.cell? ⟨g, o + i, none⟩ = some cur[o + i] := by simp [World.cell?, hg, hi]
    have e3 : w.frozen? ⟨g, o + i, none⟩ = false := by
      obtain ⟨lo, up⟩ := fz
      simp only [World.frozen?, hg, Bool.and_eq_false_iff, decide_eq_false_iff_not]
      dsimp only at hfz
      omega
    have e4 : (store ((⟨g, o, none⟩ : Addr).add i) v).run P w = .ok () (w.setRow g (cur.setIfInBounds (o + i) v)) := by
      rw [e1, run_store P w _ v _ (h1 v (by simp)), e2]
      simp [e3, setCell_eq_setRow w g (o + i) cur t fz v hg]
    have ih := store_free P g o t fz rest (i + 1) (cur.setIfInBounds (o + i) v) (w.setRow g (cur.setIfInBounds (o + i) v)) (setRow_heap w g cur _ t _ hg) (by simpa using hfz) (by simp at hl ⊢; omega) (fun x hx => h1 x (by simp [hx]))
    simp only [storeCells, Sem.run_bind, e4, Result.andThen_ok, ih, setRow_setRow]
    congr 3
    have e := list_seg_step cur.toList (o + i) v rest (by simp at hl ⊢; omega)
    simpa [Array.toList_setIfInBounds, Nat.add_assoc] using e
/-- A row of bytes, at its block's beginning, that may be written up to its capacity. -/
def WRow (w : World) (v : Value) (l : List UInt8) : Prop := ∃ g cap cur fz, v = .slice (some ⟨g, 0, none⟩) l.length cap ∧ w.heap[g]? = some (.cells cur 5 fz) ∧ (cap ≤ fz.1 ∨ fz.2 = 0) ∧ l.length ≤ cap ∧ cap ≤ maxLen ∧ cur.size = cap ∧ cur.toList.take l.length = l.map BV
theorem WRow.kept {F : Nat → Prop} {w w' : World} {v : Value} {l : List UInt8} (h : WRow w v l) (s : Stay F w w') (hn : ∀ k, v.ownBlock = some k → ¬ F k) : WRow w' v l := by
  obtain ⟨g, cap, cur, fz, h1, h2, h3⟩ := h
  exact ⟨g, cap, cur, fz, h1, (s.block g (Array.getElem?_eq_some_iff.1 h2).1 (hn g (by rw [h1]; rfl))).trans h2, h3⟩
theorem WRow.cell {w : World} {g cap : Nat} {l : List UInt8} (h : WRow w (.slice (some ⟨g, 0, none⟩) l.length cap) l) (j : Nat) (hj : j < l.length) : w.cell? ⟨g, j, none⟩ = some (BV l[j]) := by
  obtain ⟨g', cap', cur, fz, h1, h2, h3, h4, h5, h6, h7⟩ := h
  simp only [Value.slice.injEq, Option.some.injEq, Addr.mk.injEq] at h1
  obtain ⟨⟨rfl, -, -⟩, -, rfl⟩ := h1
  have hjc : j < cur.size := by omega
  have e : cur.toList[j]? = some (BV l[j]) := by
    have := congrArg (·[j]?) h7
    simp only [List.getElem?_take, if_pos hj, List.getElem?_map, List.getElem?_eq_getElem hj, Option.map_some] at this
    exact this
  rw [Array.getElem?_toList] at e
  simp [World.cell?, h2, e]
theorem WRow.append {w : World} {v : Value} {l : List UInt8} (h : WRow w v l) (ty : TypeId) (s : ByteArray) (hb : l.length + s.size ≤ 140737488355328) :
    ∃ v' w', (Builtin.append_ #[29, 9] ty #[v, .string s]).run Tryd.prog w = .ok v' w' ∧ WRow w' v' (l ++ s.data.toList) ∧ Stay (fun k => v.ownBlock = some k) w w' ∧ (∀ k, v'.ownBlock = some k → v.ownBlock = some k ∨ w.heap.size ≤ k) := by
  obtain ⟨i0, hi, hz0, hz1, hz2⟩ := info_parts Tryd.info5
  have hw := h
  obtain ⟨g, cap, cur, fz, rfl, h2, h3, h4, h5, h6, h7⟩ := h
  have hsl : (l ++ s.data.toList).length = l.length + s.size := by rw [List.length_append, nm_size]
  by_cases hroom : l.length + s.size ≤ cap
  · have hf := Lib.run_firstCells_string (P := Tryd.prog) w 1 s
    have hst := store_free Tryd.prog g l.length 5 fz (Lib.strCells s) 0 cur w h2 (by rw [h6]; exact h3) (by simp [Lib.strCells_length]; omega) (Lib.strCells_oneCell s)
    simp only [Nat.add_zero, Lib.strCells_length] at hst
    have hr : (Builtin.append_ #[29, 9] ty #[.slice (some ⟨g, 0, none⟩) l.length cap, .string s]).run Tryd.prog w = .ok (.slice (some ⟨g, 0, none⟩) (l.length + s.size) cap) (w.setRow g (cur.toList.take l.length ++ Lib.strCells s ++ cur.toList.drop (l.length + s.size)).toArray) := by
      simp [Builtin.append_, run_underlying Tryd.underlying29, run_underlying Tryd.underlying9, sizeOf, typeInfo, hi, hz1, Builtin.lenOf, hroom, hf, Addr.add_lit, hst]
    refine ⟨_, _, hr, ⟨g, cap, _, fz, by rw [hsl], setRow_heap w g cur _ 5 _ h2, h3, by rw [hsl]; exact hroom, h5, ?_, ?_⟩, ⟨rfl, rfl, rfl, by simp, fun k _ hk => setRow_other w g k _ (fun e => hk (by simp [Value.ownBlock, e]))⟩, fun k hk => .inl hk⟩
    · simp only [List.size_toArray, List.length_append, List.length_take, List.length_drop, Array.length_toList, Lib.strCells_length]
      omega
    · rw [h7, strCells_BV, ← List.map_append]
      have : ((l ++ s.data.toList).map BV).length = (l ++ s.data.toList).length := by simp
      rw [← this]
      exact List.take_left
  · have holds : ∀ j u, (l.map BV)[j]? = some u → w.cell? ((⟨g, 0, none⟩ : Addr).add j) = some u := fun j u hu => by
      have hj : j < l.length := by
        have := (List.getElem?_eq_some_iff.1 hu).1
        simpa using this
      have e1 : (⟨g, 0, none⟩ : Addr).add j = ⟨g, j, none⟩ := by unfold Addr.add; split <;> simp_all
      rw [e1, hw.cell j hj]
      rw [List.getElem?_map, List.getElem?_eq_getElem hj] at hu
      exact hu
    have hr := Lib.run_append_grow_string (P := Tryd.prog) w 29 9 ty 5 i0 (.int .u8 0) Tryd.underlying29 Tryd.underlying9 hi hz0 ⟨g, 0, none⟩ l.length cap (l.map BV) (by rw [hz1]; simp) holds s (by omega) (by omega) (by rw [hz2]; exact growslice_fits (by omega) (by omega))
    have hge := grownCap_ge w (l.length + s.size) cap 5
    have hcm2 : grownCap w (l.length + s.size) cap 5 ≤ maxLen := grownCap_le_maxLen w (l.length + s.size) cap 5 (by unfold maxLen; omega)
    refine ⟨_, _, hr, ⟨w.heap.size, _, _, (0, 0), by rw [hsl], heap_alloc_last w.drew _, .inr rfl, by rw [hsl]; exact hge, hcm2, ?_, ?_⟩, ⟨rfl, rfl, rfl, by simp, fun k hk _ => Below.heap_alloc w.drew _ k hk⟩, fun k hk => by cases hk; exact .inr (Nat.le_refl _)⟩
    · have hz1' : (Value.int IntKind.u8 0).cells.size = 1 := rfl
      simp only [Array.size_append, List.size_toArray, size_zeroCells, hz1', List.length_map, Lib.strCells_length]
      omega
    · simp only [Array.toList_append, List.append_assoc]
      rw [← List.append_assoc, strCells_BV, ← List.map_append]
      have : ((l ++ s.data.toList).map BV).length = (l ++ s.data.toList).length := by simp
      rw [← this]
      exact List.take_left
theorem WRow.conv {w : World} {v : Value} {l : List UInt8} (h : WRow w v l) : (convert 29 9 v).run Tryd.prog w = .ok (.string ⟨l.toArray⟩) w := by
  have hw := h
  obtain ⟨g, cap, cur, fz, rfl, h2, h3⟩ := h
  refine run_convert_bytes_back w 29 9 5 ⟨g, 0, none⟩ cap l Tryd.underlying29 Tryd.underlying5 Tryd.underlying9 (fun j hj => ?_)
  have e1 : (⟨g, 0, none⟩ : Addr).add j = ⟨g, j, none⟩ := by unfold Addr.add; split <;> simp_all
  rw [e1]; exact hw.cell j hj
/-- []byte(text). -/
theorem bytes_row (w : World) (s : ByteArray) (hs : s.size ≤ 140737488355328) :
    (convert 9 29 (.string s)).run Tryd.prog w = .ok (.slice (some ⟨w.heap.size, 0, none⟩) s.size (grownCap w s.size 0 5)) (Lib.bytesWorld w 5 s) ∧ WRow (Lib.bytesWorld w 5 s) (.slice (some ⟨w.heap.size, 0, none⟩) s.size (grownCap w s.size 0 5)) s.data.toList ∧ Below w.heap.size w (Lib.bytesWorld w 5 s) := by
  have hge := grownCap_ge w s.size 0 5
  have hle := grownCap_le_maxLen w s.size 0 5 (by unfold maxLen; omega)
  have hc : (Lib.bytesCells w 5 s).size = grownCap w s.size 0 5 := by
    unfold Lib.bytesCells
    simp only [Array.size_append, Array.size_map, Array.size_replicate]
    have : s.data.size = s.size := rfl
    omega
  refine ⟨Lib.run_convert_string_bytes w 9 29 5 s Tryd.underlying9 Tryd.underlying29 Tryd.underlying5, ⟨w.heap.size, _, _, _, by rw [nm_size], Lib.bytesWorld_at_new w 5 s, .inl (by dsimp only; omega), by rw [nm_size]; exact hge, hle, hc, ?_⟩, ⟨rfl, rfl, rfl, by rw [Lib.bytesWorld_size]; omega, fun k hk => Lib.bytesWorld_at_old w 5 s k hk⟩⟩
  unfold Lib.bytesCells
  rw [Array.toList_append]
  have e : (s.data.map fun b => Value.int .u8 b.toNat).toList = s.data.toList.map BV := by simp [BV]
  rw [e]
  have : (s.data.toList.map BV).length = s.data.toList.length := by simp
  rw [← this]
  exact List.take_left
end Go.Proofs.YtdegclccbgpgiaaDoor
set_option linter.unusedVariables false
set_option linter.unusedSimpArgs false
namespace Go.Proofs.YtdegclccbgpgiaaDoor
open Go.RowKit Go.Proofs.SealMath
def sndC : Code → Code
  | .seq _ b => b
  | c => c
def dropC : Nat → Code → Code
  | 0, c => c
  | n + 1, c => dropC n (sndC c)
theorem open_no (b : ByteArray) (w : World) (ht : Tab w) (hg : 0 < w.heap.size) (hb : b.size ≤ 1099511627776) (hn : opA b = none) :
    Calls Tryd.prog 10 #[.string b] w fun r w' => r = .returned (.tuple #[.pointer none, .int .i64 80]) ∧ Below w.heap.size w w' := by
  refine (open_any b w ht hg hb).mono ?_
  rintro r w' ⟨b', hR⟩
  rw [hn] at hR
  simp only [] at hR
  exact ⟨hR, b'⟩
theorem and255 (n : Int) : bits .and .i64 n 255 = n % 256 := by
  have e : ((255 : Int)) = ((2 ^ 8 - 1 : Nat) : Int) := rfl
  have hm : (BitVec.ofInt 64 (255 : Int)).toNat = 2 ^ 8 - 1 := by decide
  have key : (BitVec.ofInt 64 n &&& BitVec.ofInt 64 (255 : Int)).toNat = (n % ((2 ^ 64 : Nat) : Int)).toNat % 2 ^ 8 := by
    rw [BitVec.toNat_and, BitVec.toNat_ofInt, hm, Nat.and_two_pow_sub_one_eq_mod]
  show IntKind.i64.wrap ((BitVec.ofInt 64 n &&& BitVec.ofInt 64 (255 : Int)).toNat : Nat) = n % 256
  rw [key]
  rw [i64_in _ (Int.natCast_nonneg _) (by omega)]
  omega
theorem byte_of (y : Int) : ∃ c : UInt8, IntKind.u8.wrap y = (c.toNat : Int) ∧ (bits .and .i64 y 255 = (c.toNat : Int)) := by
  refine ⟨UInt8.ofNat (y % 256).toNat, ?_, ?_⟩
  · rw [IntKind.wrap_u8, u8n]; omega
  · rw [and255, u8n]; omega
theorem xor_u8 (x y : UInt8) : bits .xor .u8 (x.toNat : Int) (y.toNat : Int) = ((x ^^^ y).toNat : Int) := by
  rw [UInt8.toNat_xor]
  exact u8_xor_nat x.toNat y.toNat x.toNat_lt y.toNat_lt
theorem conv_cell (W : World) (g : Nat) (c : UInt8) (h : W.cell? ⟨g, 0, none⟩ = some (.int .u8 c.toNat)) : (convert 29 9 (.slice (some ⟨g, 0, none⟩) 1 1)).run Tryd.prog W = .ok (.string ⟨#[c]⟩) W :=
  run_convert_bytes_back W 29 9 5 ⟨g, 0, none⟩ 1 [c] Tryd.underlying29 Tryd.underlying5 Tryd.underlying9 (fun j hj => by
    have hj0 : j = 0 := by simpa using hj
    subst hj0
    have ea : (⟨g, 0, none⟩ : Addr).add 0 = ⟨g, 0, none⟩ := by unfold Addr.add; split <;> simp_all
    rw [ea]
    exact h)
theorem one_cell (W : World) (c : UInt8) : (W.alloc (.cells #[.int .u8 c.toNat] 5)).cell? ⟨W.heap.size, 0, none⟩ = some (.int .u8 c.toNat) := by
  have h := heap_alloc_last W (.cells #[.int .u8 c.toNat] 5)
  simp only [World.cell?, h]; rfl
/-- What the walk keeps. -/
structure SpI (w : World) (h : Hd) (l : List En) (T : ByteArray) (W : World) : Prop where
  tab : Tab w
  pos : 0 < w.heap.size
  ok : bdE h l = 0
  txt : T.data.toList = fileT h l
  bw : Below w.heap.size w W
theorem SpI.len {w : World} {h : Hd} {l : List En} {T : ByteArray} {W : World} (H : SpI w h l T W) : T.size ≤ 17179869184 := by
  rw [← nm_size, H.txt]; exact file_len2 h l H.ok
theorem SpI.on {w : World} {h : Hd} {l : List En} {T : ByteArray} {W W' : World} (H : SpI w h l T W) (b : Below W.heap.size W W') : SpI w h l T W' := { H with bw := chain H.bw b (Nat.le_refl _) }
theorem SpI.no {w : World} {h : Hd} {l : List En} {T : ByteArray} {W : World} (H : SpI w h l T W) (b : ByteArray) (hb : b.size ≤ 1099511627776) (hn : opA b = none) :
    Calls Tryd.prog 10 #[.string b] W fun r w' => r = .returned (.tuple #[.pointer none, .int .i64 80]) ∧ Below W.heap.size W w' := by
  obtain ⟨ht, hg⟩ := H.tab.blk H.pos H.bw
  exact open_no b W ht hg hb hn
theorem SpI.yes {w : World} {h : Hd} {l : List En} {T : ByteArray} {W : World} (H : SpI w h l T W) :
    Calls Tryd.prog 10 #[.string T] W fun r w' => (∃ fb, r = .returned (.tuple #[Pt fb, .int .i64 0])) ∧ Below W.heap.size W w' := by
  obtain ⟨ht, hg⟩ := H.tab.blk H.pos H.bw
  have e : T = ⟨(fileT h l).toArray⟩ := by apply ba_ext; rw [H.txt]
  rw [e]
  refine (open_built h l W ht hg H.ok (file_len h l H.ok)).mono ?_
  rintro r w' ⟨b, fb, bv, iv, bl, ix, rfl, -⟩
  exact ⟨⟨fb, rfl⟩, b⟩
theorem WRow.set {w : World} {g cap : Nat} {l : List UInt8} {n : Nat} (h : WRow w (.slice (some ⟨g, 0, none⟩) n cap) l) (hn : n = l.length) (q : Nat) (hq : q < l.length) (c : UInt8) :
    w.frozen? ⟨g, q, none⟩ = false ∧ WRow (w.setCell ⟨g, q, none⟩ (.int .u8 c.toNat)) (.slice (some ⟨g, 0, none⟩) n cap) (l.set q c) := by
  subst hn
  obtain ⟨g', cap', cur, fz, h1, h2, h3, h4, h5, h6, h7⟩ := h
  simp only [Value.slice.injEq, Option.some.injEq, Addr.mk.injEq] at h1
  obtain ⟨⟨rfl, -, -⟩, -, rfl⟩ := h1
  refine ⟨?_, g, cap, cur.setIfInBounds q (.int .u8 c.toNat), fz, by rw [List.length_set], ?_, h3, by rw [List.length_set]; exact h4, h5, by rw [Array.size_setIfInBounds]; exact h6, ?_⟩
  · obtain ⟨lo, up⟩ := fz
    simp only [World.frozen?, h2, Bool.and_eq_false_iff, decide_eq_false_iff_not]
    dsimp only at h3
    omega
  · rw [setCell_eq_setRow w g q cur 5 fz _ h2]; exact setRow_heap w g cur _ 5 _ h2
  · rw [List.length_set, Array.toList_setIfInBounds, List.take_set, h7, List.map_set]; rfl
theorem list_at (T : ByteArray) (q : Nat) (hq : q < T.size) : ∃ c : UInt8, T.data.toList[q]'(by rw [nm_size]; exact hq) = c ∧ T.data.toList.getD q 0 = c := by
  refine ⟨_, rfl, ?_⟩
  rw [List.getD_eq_getElem?_getD, List.getElem?_eq_getElem (by rw [nm_size]; exact hq)]; rfl
set_option maxHeartbeats 16000000 in
set_option maxRecDepth 100000 in
theorem law_spoilt6 (h : Hd) (l : List En) (la : Option Addr) (cap : Nat) (x y z : Int) (w : World) (ht : Tab w) (hg : 0 < w.heap.size) (hl : LAt w la l) (hcap : l.length ≤ cap) :
    Calls Tryd.prog 3 #[.agg (hdC h).toArray, .slice la l.length cap, .int .i64 x, .int .i64 y, .int .i64 z] w fun r w' => r = .returned (.bool true) ∧ Below w.heap.size w w' := by
  obtain ⟨W, hW⟩ : ∃ W, W = w.alloc (.cells (hdC h).toArray 23) := ⟨_, rfl⟩
  have bW : Below w.heap.size w W := by rw [hW]; exact (Below.refl _ w).alloc (Nat.le_refl _) _
  have hH : W.heap[w.heap.size]? = some (.cells (hdC h).toArray 23 (0, 0)) := by rw [hW]; exact heap_alloc_last w _
  obtain ⟨htW, hgW⟩ := ht.blk hg bW
  have hbg := begun6_any W htW hgW
  have HL := Hid.mk (And.intro ht (And.intro hg (And.intro hl hcap)))
  obtain ⟨n, hn⟩ : ∃ n, n = l.length := ⟨_, rfl⟩
  rw [← hn]
  have HN := Hid.mk hn
  clear ht hg hl hcap htW hgW hn
  obtain ⟨wd, t, bt, lo, hi, cn⟩ := h
  simp only [hdC] at hW hH ⊢
  have HW := Hid.mk hW
  clear hW
  go_enter Tryd.func3, Tryd.ntmps3
  go_wp2_with fail
  rw [← HW.out]
  refine hbg.mono ?_
  clear hbg
  rintro r w1 ⟨rfl, b1⟩
  have hH1 : w1.heap[w.heap.size]? = _ := (b1.block _ (Array.getElem?_eq_some_iff.1 hH).1).trans hH
  have bw1 := chain bW b1 (Nat.le_refl _)
  obtain ⟨ht1, hg1⟩ := HL.out.1.blk HL.out.2.1 bw1
  have hbd := build_any ⟨wd, t, bt, lo, hi, cn⟩ l la cap w1 ht1 (HL.out.2.2.1.below bw1) HL.out.2.2.2
  simp only [hdC] at hbd
  rw [← HN.out] at hbd
  have x0 : w1.cell? ⟨w.heap.size, 0, none⟩ = some (.int .i64 wd) := by rw [cell_of_row _ _ 0 _ _ (0, 0) hH1]; rfl
  have x1 : w1.cell? ⟨w.heap.size, 1, none⟩ = some (.int .i64 t) := by rw [cell_of_row _ _ 1 _ _ (0, 0) hH1]; rfl
  have x2 : w1.cell? ⟨w.heap.size, 2, none⟩ = some (.int .i64 bt) := by rw [cell_of_row _ _ 2 _ _ (0, 0) hH1]; rfl
  have x3 : w1.cell? ⟨w.heap.size, 3, none⟩ = some (.int .i64 lo) := by rw [cell_of_row _ _ 3 _ _ (0, 0) hH1]; rfl
  have x4 : w1.cell? ⟨w.heap.size, 4, none⟩ = some (.int .i64 hi) := by rw [cell_of_row _ _ 4 _ _ (0, 0) hH1]; rfl
  have x5 : w1.cell? ⟨w.heap.size, 5, none⟩ = some (.int .i64 cn) := by rw [cell_of_row _ _ 5 _ _ (0, 0) hH1]; rfl
  have H1 := Hid.mk bw1
  clear hH1 bw1 ht1 hg1 b1 bW hH HW
  by_cases hE : bdE ⟨wd, t, bt, lo, hi, cn⟩ l = 0
  · have hT2 : bdT ⟨wd, t, bt, lo, hi, cn⟩ l = fileT ⟨wd, t, bt, lo, hi, cn⟩ l := by unfold bdT; rw [if_pos hE]
    rw [hE, hT2] at hbd
    have HE := Hid.mk hE
    clear hE hT2
    obtain ⟨T, hT⟩ : ∃ T : ByteArray, T = ⟨(fileT ⟨wd, t, bt, lo, hi, cn⟩ l).toArray⟩ := ⟨_, rfl⟩
    rw [← hT] at hbd
    have HT := Hid.mk (show T.data.toList = fileT ⟨wd, t, bt, lo, hi, cn⟩ l by rw [hT])
    clear hT
    go_wp2_with fail
    refine hbd.mono ?_
    clear hbd
    rintro r w2 ⟨rfl, b2⟩
    have HS : Hid (SpI w ⟨wd, t, bt, lo, hi, cn⟩ l T w2) := ⟨HL.out.1, HL.out.2.1, HE.out, HT.out, chain H1.out b2 (Nat.le_refl _)⟩
    obtain ⟨S, hS⟩ : ∃ S, S = T.size := ⟨_, rfl⟩
    have hS' : T.size = S := hS.symm
    have hSl : S ≤ 17179869184 := by have := HS.out.len; omega
    obtain ⟨c, hc, hand⟩ := byte_of y
    clear b2 x0 x1 x2 x3 x4 x5 hS
    have HX := Hid.mk (And.intro hS' hSl)
    by_cases hx0 : x < 0
    · have u1 : decide (0 ≤ x) = false := decide_eq_false (by omega)
      have u2 : ¬ 0 ≤ x := by omega
      clear hx0 hand
      by_cases hz0 : z < 0
      · as_aux_lemma =>
        have z1 : decide (0 ≤ z) = false := decide_eq_false (by omega)
        have z2 : ¬ 0 ≤ z := by omega
        have hcv := conv_cell _ _ c (one_cell w2 c)
        obtain ⟨B, hB⟩ : ∃ B : ByteArray, B = T ++ ⟨#[c]⟩ := ⟨_, rfl⟩
        have hBs : B.size = T.size + 1 := by rw [hB, ByteArray.size_append]; rfl
        have hno : opA B = none := op_more HS.out.ok B c (by rw [hB, ← HS.out.txt]; simp)
        have bA : Below w2.heap.size w2 (w2.alloc (.cells #[.int .u8 c.toNat] 5)) := (Below.refl _ w2).alloc (Nat.le_refl _) _
        have hop := (HS.out.on bA).no B (by have := HS.out.len; omega) hno
        have hsum : ¬ (9223372036854775807 < T.size + (⟨#[c]⟩ : ByteArray).size) := by have := HS.out.len; show ¬ (9223372036854775807 < T.size + 1); omega
        have HH := Hid.mk (HS.out.on bA)
        have hB' : T ++ ⟨#[c]⟩ = B := hB.symm
        clear hB hno hBs bA
        go_wp2_with (go_at_call 10; refine hop.mono ?_; clear hop hcv; rintro r w8 ⟨rfl, b8⟩; have H8 := Hid.mk (HH.out.on b8); have hop2 := H8.out.yes)
        refine hop2.mono ?_
        clear hop2
        rintro r w9 ⟨⟨fb, rfl⟩, b9⟩
        go_wp2
        go_ret
        exact ⟨rfl, (H8.out.on b9).bw⟩

      · obtain ⟨k, rfl⟩ : ∃ k : Nat, z = k := ⟨z.toNat, by omega⟩
        have z0 : (0 : Int) ≤ (k : Int) := by omega
        clear hz0
        by_cases hzl : k < S
        · as_aux_lemma =>
          have z1 : (k : Int) < (S : Int) := by omega
          have z3 : k ≤ T.size := by rw [HX.out.1]; omega
          have hno1 : opA (T.extract 0 k) = none := op_cut HS.out.ok _ k (by rw [← HS.out.txt, nm_size, HX.out.1]; exact hzl) (by rw [← HS.out.txt]; simp)
          have hopB := HS.out.no (T.extract 0 k) (by have := HS.out.len; simp; omega) hno1
          clear hno1 hzl
          go_wp2_with fail
          refine hopB.mono ?_
          clear hopB
          rintro r w6 ⟨rfl, b6⟩
          have H6 := Hid.mk (HS.out.on b6)
          have hcv := conv_cell _ _ c (one_cell w6 c)
          obtain ⟨B, hB⟩ : ∃ B : ByteArray, B = T ++ ⟨#[c]⟩ := ⟨_, rfl⟩
          have hBs : B.size = T.size + 1 := by rw [hB, ByteArray.size_append]; rfl
          have hno : opA B = none := op_more H6.out.ok B c (by rw [hB, ← H6.out.txt]; simp)
          have bA : Below w6.heap.size w6 (w6.alloc (.cells #[.int .u8 c.toNat] 5)) := (Below.refl _ w6).alloc (Nat.le_refl _) _
          have hop := (H6.out.on bA).no B (by have := H6.out.len; omega) hno
          have hsum : ¬ (9223372036854775807 < T.size + (⟨#[c]⟩ : ByteArray).size) := by have := H6.out.len; show ¬ (9223372036854775807 < T.size + 1); omega
          have HH := Hid.mk (H6.out.on bA)
          have hB' : T ++ ⟨#[c]⟩ = B := hB.symm
          clear hB hno hBs bA
          go_wp2_with (go_at_call 10; refine hop.mono ?_; clear hop hcv; rintro r w8 ⟨rfl, b8⟩; have H8 := Hid.mk (HH.out.on b8); have hop2 := H8.out.yes)
          refine hop2.mono ?_
          clear hop2
          rintro r w9 ⟨⟨fb, rfl⟩, b9⟩
          go_wp2
          go_ret
          exact ⟨rfl, (H8.out.on b9).bw⟩

        · as_aux_lemma =>
          have z1 : ¬ (k : Int) < (S : Int) := by omega
          have z2 : decide ((k : Int) < (S : Int)) = false := decide_eq_false z1
          clear hzl
          have hcv := conv_cell _ _ c (one_cell w2 c)
          obtain ⟨B, hB⟩ : ∃ B : ByteArray, B = T ++ ⟨#[c]⟩ := ⟨_, rfl⟩
          have hBs : B.size = T.size + 1 := by rw [hB, ByteArray.size_append]; rfl
          have hno : opA B = none := op_more HS.out.ok B c (by rw [hB, ← HS.out.txt]; simp)
          have bA : Below w2.heap.size w2 (w2.alloc (.cells #[.int .u8 c.toNat] 5)) := (Below.refl _ w2).alloc (Nat.le_refl _) _
          have hop := (HS.out.on bA).no B (by have := HS.out.len; omega) hno
          have hsum : ¬ (9223372036854775807 < T.size + (⟨#[c]⟩ : ByteArray).size) := by have := HS.out.len; show ¬ (9223372036854775807 < T.size + 1); omega
          have HH := Hid.mk (HS.out.on bA)
          have hB' : T ++ ⟨#[c]⟩ = B := hB.symm
          clear hB hno hBs bA
          go_wp2_with (go_at_call 10; refine hop.mono ?_; clear hop hcv; rintro r w8 ⟨rfl, b8⟩; have H8 := Hid.mk (HH.out.on b8); have hop2 := H8.out.yes)
          refine hop2.mono ?_
          clear hop2
          rintro r w9 ⟨⟨fb, rfl⟩, b9⟩
          go_wp2
          go_ret
          exact ⟨rfl, (H8.out.on b9).bw⟩

    · obtain ⟨q, rfl⟩ : ∃ q : Nat, x = q := ⟨x.toNat, by omega⟩
      have u0 : (0 : Int) ≤ (q : Int) := by omega
      clear hx0
      by_cases hxl : q < S
      · have u1 : (q : Int) < (S : Int) := by omega
        by_cases hy0 : c = 0
        · have hc0 : c.toNat = 0 := by rw [hy0]; rfl
          have v1 : ((c.toNat : Int) != 0) = false := by rw [hc0]; rfl
          clear hxl hc0 hy0
          by_cases hz0 : z < 0
          · as_aux_lemma =>
            have z1 : decide (0 ≤ z) = false := decide_eq_false (by omega)
            have z2 : ¬ 0 ≤ z := by omega
            have hcv := conv_cell _ _ c (one_cell w2 c)
            obtain ⟨B, hB⟩ : ∃ B : ByteArray, B = T ++ ⟨#[c]⟩ := ⟨_, rfl⟩
            have hBs : B.size = T.size + 1 := by rw [hB, ByteArray.size_append]; rfl
            have hno : opA B = none := op_more HS.out.ok B c (by rw [hB, ← HS.out.txt]; simp)
            have bA : Below w2.heap.size w2 (w2.alloc (.cells #[.int .u8 c.toNat] 5)) := (Below.refl _ w2).alloc (Nat.le_refl _) _
            have hop := (HS.out.on bA).no B (by have := HS.out.len; omega) hno
            have hsum : ¬ (9223372036854775807 < T.size + (⟨#[c]⟩ : ByteArray).size) := by have := HS.out.len; show ¬ (9223372036854775807 < T.size + 1); omega
            have HH := Hid.mk (HS.out.on bA)
            have hB' : T ++ ⟨#[c]⟩ = B := hB.symm
            clear hB hno hBs bA
            go_wp2_with (go_at_call 10; refine hop.mono ?_; clear hop hcv; rintro r w8 ⟨rfl, b8⟩; have H8 := Hid.mk (HH.out.on b8); have hop2 := H8.out.yes)
            refine hop2.mono ?_
            clear hop2
            rintro r w9 ⟨⟨fb, rfl⟩, b9⟩
            go_wp2
            go_ret
            exact ⟨rfl, (H8.out.on b9).bw⟩

          · obtain ⟨k, rfl⟩ : ∃ k : Nat, z = k := ⟨z.toNat, by omega⟩
            have z0 : (0 : Int) ≤ (k : Int) := by omega
            clear hz0
            by_cases hzl : k < S
            · as_aux_lemma =>
              have z1 : (k : Int) < (S : Int) := by omega
              have z3 : k ≤ T.size := by rw [HX.out.1]; omega
              have hno1 : opA (T.extract 0 k) = none := op_cut HS.out.ok _ k (by rw [← HS.out.txt, nm_size, HX.out.1]; exact hzl) (by rw [← HS.out.txt]; simp)
              have hopB := HS.out.no (T.extract 0 k) (by have := HS.out.len; simp; omega) hno1
              clear hno1 hzl
              go_wp2_with fail
              refine hopB.mono ?_
              clear hopB
              rintro r w6 ⟨rfl, b6⟩
              have H6 := Hid.mk (HS.out.on b6)
              have hcv := conv_cell _ _ c (one_cell w6 c)
              obtain ⟨B, hB⟩ : ∃ B : ByteArray, B = T ++ ⟨#[c]⟩ := ⟨_, rfl⟩
              have hBs : B.size = T.size + 1 := by rw [hB, ByteArray.size_append]; rfl
              have hno : opA B = none := op_more H6.out.ok B c (by rw [hB, ← H6.out.txt]; simp)
              have bA : Below w6.heap.size w6 (w6.alloc (.cells #[.int .u8 c.toNat] 5)) := (Below.refl _ w6).alloc (Nat.le_refl _) _
              have hop := (H6.out.on bA).no B (by have := H6.out.len; omega) hno
              have hsum : ¬ (9223372036854775807 < T.size + (⟨#[c]⟩ : ByteArray).size) := by have := H6.out.len; show ¬ (9223372036854775807 < T.size + 1); omega
              have HH := Hid.mk (H6.out.on bA)
              have hB' : T ++ ⟨#[c]⟩ = B := hB.symm
              clear hB hno hBs bA
              go_wp2_with (go_at_call 10; refine hop.mono ?_; clear hop hcv; rintro r w8 ⟨rfl, b8⟩; have H8 := Hid.mk (HH.out.on b8); have hop2 := H8.out.yes)
              refine hop2.mono ?_
              clear hop2
              rintro r w9 ⟨⟨fb, rfl⟩, b9⟩
              go_wp2
              go_ret
              exact ⟨rfl, (H8.out.on b9).bw⟩

            · as_aux_lemma =>
              have z1 : ¬ (k : Int) < (S : Int) := by omega
              have z2 : decide ((k : Int) < (S : Int)) = false := decide_eq_false z1
              clear hzl
              have hcv := conv_cell _ _ c (one_cell w2 c)
              obtain ⟨B, hB⟩ : ∃ B : ByteArray, B = T ++ ⟨#[c]⟩ := ⟨_, rfl⟩
              have hBs : B.size = T.size + 1 := by rw [hB, ByteArray.size_append]; rfl
              have hno : opA B = none := op_more HS.out.ok B c (by rw [hB, ← HS.out.txt]; simp)
              have bA : Below w2.heap.size w2 (w2.alloc (.cells #[.int .u8 c.toNat] 5)) := (Below.refl _ w2).alloc (Nat.le_refl _) _
              have hop := (HS.out.on bA).no B (by have := HS.out.len; omega) hno
              have hsum : ¬ (9223372036854775807 < T.size + (⟨#[c]⟩ : ByteArray).size) := by have := HS.out.len; show ¬ (9223372036854775807 < T.size + 1); omega
              have HH := Hid.mk (HS.out.on bA)
              have hB' : T ++ ⟨#[c]⟩ = B := hB.symm
              clear hB hno hBs bA
              go_wp2_with (go_at_call 10; refine hop.mono ?_; clear hop hcv; rintro r w8 ⟨rfl, b8⟩; have H8 := Hid.mk (HH.out.on b8); have hop2 := H8.out.yes)
              refine hop2.mono ?_
              clear hop2
              rintro r w9 ⟨⟨fb, rfl⟩, b9⟩
              go_wp2
              go_ret
              exact ⟨rfl, (H8.out.on b9).bw⟩

        · have hc0 : c.toNat ≠ 0 := fun e => hy0 (by apply UInt8.toNat_inj.1; rw [e]; rfl)
          have v1 : ((c.toNat : Int) != 0) = true := by simp [hc0]
          obtain ⟨hcb, hrow, hbb⟩ := bytes_row w2 T (by have := HS.out.len; omega)
          obtain ⟨V, hV⟩ : ∃ V, V = Lib.bytesWorld w2 5 T := ⟨_, rfl⟩
          rw [← hV] at hcb hrow hbb
          obtain ⟨CP, hCP⟩ : ∃ CP, CP = grownCap w2 T.size 0 5 := ⟨_, rfl⟩
          rw [← hCP, HX.out.1] at hcb hrow
          have hqT : q < T.data.toList.length := by rw [nm_size, HX.out.1]; exact hxl
          have hld := WRow.cell (g := w2.heap.size) (cap := CP) (l := T.data.toList) (by rw [nm_size, HX.out.1]; exact hrow) q hqT
          obtain ⟨d, hd1, hd2⟩ := list_at T q (by rw [HX.out.1]; exact hxl)
          rw [hd1] at hld
          have hld' : V.cell? ⟨w2.heap.size, q, none⟩ = some (.int .u8 d.toNat) := hld
          have hxr := xor_u8 d c
          obtain ⟨e, he⟩ : ∃ e, e = d ^^^ c := ⟨_, rfl⟩
          rw [← he] at hxr
          obtain ⟨hfr, hrow2⟩ := hrow.set (by rw [nm_size, HX.out.1]) q hqT e
          have hcv2 := hrow2.conv
          obtain ⟨B2, hB2⟩ : ∃ B2 : ByteArray, B2 = ⟨(T.data.toList.set q e).toArray⟩ := ⟨_, rfl⟩
          rw [← hB2] at hcv2
          have hB2l : B2.data.toList = (fileT ⟨wd, t, bt, lo, hi, cn⟩ l).set q e := by rw [hB2, ← HS.out.txt]
          have hB2s : B2.size ≤ 1099511627776 := by rw [← nm_size, hB2l, List.length_set]; exact file_len _ _ HE.out
          have hno2 : opA B2 = none := op_one HS.out.ok B2 q e c (by rw [← HS.out.txt]; exact hqT) (by rw [← HS.out.txt, hd2, he, UInt8.toNat_xor]) hy0 hB2l
          obtain ⟨V2, hV2⟩ : ∃ V2, V2 = V.setCell ⟨w2.heap.size, q, none⟩ (.int .u8 (e.toNat : Int)) := ⟨_, rfl⟩
          rw [← hV2] at hcv2
          have bV2 : Below w2.heap.size w2 V2 := by rw [hV2]; exact hbb.setCell (p := ⟨w2.heap.size, q, none⟩) (Nat.le_refl _) _
          have hopA := (HS.out.on bV2).no B2 hB2s hno2
          have HV2 := Hid.mk (HS.out.on bV2)
          have hV2' : V.setCell ⟨w2.heap.size, q, none⟩ (.int .u8 (e.toNat : Int)) = V2 := hV2.symm
          clear he hrow hbb hV hCP hqT hld hd1 hd2 hrow2 hB2 hB2l hB2s hno2 hV2 bV2 hy0 hxl hc0
          go_wp2_with fail
          refine hopA.mono ?_
          clear hopA hcb hld' hxr hfr hcv2 hV2'
          rintro r w5 ⟨rfl, b5⟩
          have H5 := Hid.mk (HV2.out.on b5)
          by_cases hz0 : z < 0
          · as_aux_lemma =>
            have z1 : decide (0 ≤ z) = false := decide_eq_false (by omega)
            have z2 : ¬ 0 ≤ z := by omega
            have hcv := conv_cell _ _ c (one_cell w5 c)
            obtain ⟨B, hB⟩ : ∃ B : ByteArray, B = T ++ ⟨#[c]⟩ := ⟨_, rfl⟩
            have hBs : B.size = T.size + 1 := by rw [hB, ByteArray.size_append]; rfl
            have hno : opA B = none := op_more H5.out.ok B c (by rw [hB, ← H5.out.txt]; simp)
            have bA : Below w5.heap.size w5 (w5.alloc (.cells #[.int .u8 c.toNat] 5)) := (Below.refl _ w5).alloc (Nat.le_refl _) _
            have hop := (H5.out.on bA).no B (by have := H5.out.len; omega) hno
            have hsum : ¬ (9223372036854775807 < T.size + (⟨#[c]⟩ : ByteArray).size) := by have := H5.out.len; show ¬ (9223372036854775807 < T.size + 1); omega
            have HH := Hid.mk (H5.out.on bA)
            have hB' : T ++ ⟨#[c]⟩ = B := hB.symm
            clear hB hno hBs bA
            go_wp2_with (go_at_call 10; refine hop.mono ?_; clear hop hcv; rintro r w8 ⟨rfl, b8⟩; have H8 := Hid.mk (HH.out.on b8); have hop2 := H8.out.yes)
            refine hop2.mono ?_
            clear hop2
            rintro r w9 ⟨⟨fb, rfl⟩, b9⟩
            go_wp2
            go_ret
            exact ⟨rfl, (H8.out.on b9).bw⟩

          · obtain ⟨k, rfl⟩ : ∃ k : Nat, z = k := ⟨z.toNat, by omega⟩
            have z0 : (0 : Int) ≤ (k : Int) := by omega
            clear hz0
            by_cases hzl : k < S
            · as_aux_lemma =>
              have z1 : (k : Int) < (S : Int) := by omega
              have z3 : k ≤ T.size := by rw [HX.out.1]; omega
              have hno1 : opA (T.extract 0 k) = none := op_cut H5.out.ok _ k (by rw [← H5.out.txt, nm_size, HX.out.1]; exact hzl) (by rw [← H5.out.txt]; simp)
              have hopB := H5.out.no (T.extract 0 k) (by have := H5.out.len; simp; omega) hno1
              clear hno1 hzl
              go_wp2_with fail
              refine hopB.mono ?_
              clear hopB
              rintro r w6 ⟨rfl, b6⟩
              have H6 := Hid.mk (H5.out.on b6)
              have hcv := conv_cell _ _ c (one_cell w6 c)
              obtain ⟨B, hB⟩ : ∃ B : ByteArray, B = T ++ ⟨#[c]⟩ := ⟨_, rfl⟩
              have hBs : B.size = T.size + 1 := by rw [hB, ByteArray.size_append]; rfl
              have hno : opA B = none := op_more H6.out.ok B c (by rw [hB, ← H6.out.txt]; simp)
              have bA : Below w6.heap.size w6 (w6.alloc (.cells #[.int .u8 c.toNat] 5)) := (Below.refl _ w6).alloc (Nat.le_refl _) _
              have hop := (H6.out.on bA).no B (by have := H6.out.len; omega) hno
              have hsum : ¬ (9223372036854775807 < T.size + (⟨#[c]⟩ : ByteArray).size) := by have := H6.out.len; show ¬ (9223372036854775807 < T.size + 1); omega
              have HH := Hid.mk (H6.out.on bA)
              have hB' : T ++ ⟨#[c]⟩ = B := hB.symm
              clear hB hno hBs bA
              go_wp2_with (go_at_call 10; refine hop.mono ?_; clear hop hcv; rintro r w8 ⟨rfl, b8⟩; have H8 := Hid.mk (HH.out.on b8); have hop2 := H8.out.yes)
              refine hop2.mono ?_
              clear hop2
              rintro r w9 ⟨⟨fb, rfl⟩, b9⟩
              go_wp2
              go_ret
              exact ⟨rfl, (H8.out.on b9).bw⟩

            · as_aux_lemma =>
              have z1 : ¬ (k : Int) < (S : Int) := by omega
              have z2 : decide ((k : Int) < (S : Int)) = false := decide_eq_false z1
              clear hzl
              have hcv := conv_cell _ _ c (one_cell w5 c)
              obtain ⟨B, hB⟩ : ∃ B : ByteArray, B = T ++ ⟨#[c]⟩ := ⟨_, rfl⟩
              have hBs : B.size = T.size + 1 := by rw [hB, ByteArray.size_append]; rfl
              have hno : opA B = none := op_more H5.out.ok B c (by rw [hB, ← H5.out.txt]; simp)
              have bA : Below w5.heap.size w5 (w5.alloc (.cells #[.int .u8 c.toNat] 5)) := (Below.refl _ w5).alloc (Nat.le_refl _) _
              have hop := (H5.out.on bA).no B (by have := H5.out.len; omega) hno
              have hsum : ¬ (9223372036854775807 < T.size + (⟨#[c]⟩ : ByteArray).size) := by have := H5.out.len; show ¬ (9223372036854775807 < T.size + 1); omega
              have HH := Hid.mk (H5.out.on bA)
              have hB' : T ++ ⟨#[c]⟩ = B := hB.symm
              clear hB hno hBs bA
              go_wp2_with (go_at_call 10; refine hop.mono ?_; clear hop hcv; rintro r w8 ⟨rfl, b8⟩; have H8 := Hid.mk (HH.out.on b8); have hop2 := H8.out.yes)
              refine hop2.mono ?_
              clear hop2
              rintro r w9 ⟨⟨fb, rfl⟩, b9⟩
              go_wp2
              go_ret
              exact ⟨rfl, (H8.out.on b9).bw⟩

      · have u1 : ¬ (q : Int) < (S : Int) := by omega
        have u2 : decide ((q : Int) < (S : Int)) = false := decide_eq_false u1
        clear hxl hand
        by_cases hz0 : z < 0
        · as_aux_lemma =>
          have z1 : decide (0 ≤ z) = false := decide_eq_false (by omega)
          have z2 : ¬ 0 ≤ z := by omega
          have hcv := conv_cell _ _ c (one_cell w2 c)
          obtain ⟨B, hB⟩ : ∃ B : ByteArray, B = T ++ ⟨#[c]⟩ := ⟨_, rfl⟩
          have hBs : B.size = T.size + 1 := by rw [hB, ByteArray.size_append]; rfl
          have hno : opA B = none := op_more HS.out.ok B c (by rw [hB, ← HS.out.txt]; simp)
          have bA : Below w2.heap.size w2 (w2.alloc (.cells #[.int .u8 c.toNat] 5)) := (Below.refl _ w2).alloc (Nat.le_refl _) _
          have hop := (HS.out.on bA).no B (by have := HS.out.len; omega) hno
          have hsum : ¬ (9223372036854775807 < T.size + (⟨#[c]⟩ : ByteArray).size) := by have := HS.out.len; show ¬ (9223372036854775807 < T.size + 1); omega
          have HH := Hid.mk (HS.out.on bA)
          have hB' : T ++ ⟨#[c]⟩ = B := hB.symm
          clear hB hno hBs bA
          go_wp2_with (go_at_call 10; refine hop.mono ?_; clear hop hcv; rintro r w8 ⟨rfl, b8⟩; have H8 := Hid.mk (HH.out.on b8); have hop2 := H8.out.yes)
          refine hop2.mono ?_
          clear hop2
          rintro r w9 ⟨⟨fb, rfl⟩, b9⟩
          go_wp2
          go_ret
          exact ⟨rfl, (H8.out.on b9).bw⟩

        · obtain ⟨k, rfl⟩ : ∃ k : Nat, z = k := ⟨z.toNat, by omega⟩
          have z0 : (0 : Int) ≤ (k : Int) := by omega
          clear hz0
          by_cases hzl : k < S
          · as_aux_lemma =>
            have z1 : (k : Int) < (S : Int) := by omega
            have z3 : k ≤ T.size := by rw [HX.out.1]; omega
            have hno1 : opA (T.extract 0 k) = none := op_cut HS.out.ok _ k (by rw [← HS.out.txt, nm_size, HX.out.1]; exact hzl) (by rw [← HS.out.txt]; simp)
            have hopB := HS.out.no (T.extract 0 k) (by have := HS.out.len; simp; omega) hno1
            clear hno1 hzl
            go_wp2_with fail
            refine hopB.mono ?_
            clear hopB
            rintro r w6 ⟨rfl, b6⟩
            have H6 := Hid.mk (HS.out.on b6)
            have hcv := conv_cell _ _ c (one_cell w6 c)
            obtain ⟨B, hB⟩ : ∃ B : ByteArray, B = T ++ ⟨#[c]⟩ := ⟨_, rfl⟩
            have hBs : B.size = T.size + 1 := by rw [hB, ByteArray.size_append]; rfl
            have hno : opA B = none := op_more H6.out.ok B c (by rw [hB, ← H6.out.txt]; simp)
            have bA : Below w6.heap.size w6 (w6.alloc (.cells #[.int .u8 c.toNat] 5)) := (Below.refl _ w6).alloc (Nat.le_refl _) _
            have hop := (H6.out.on bA).no B (by have := H6.out.len; omega) hno
            have hsum : ¬ (9223372036854775807 < T.size + (⟨#[c]⟩ : ByteArray).size) := by have := H6.out.len; show ¬ (9223372036854775807 < T.size + 1); omega
            have HH := Hid.mk (H6.out.on bA)
            have hB' : T ++ ⟨#[c]⟩ = B := hB.symm
            clear hB hno hBs bA
            go_wp2_with (go_at_call 10; refine hop.mono ?_; clear hop hcv; rintro r w8 ⟨rfl, b8⟩; have H8 := Hid.mk (HH.out.on b8); have hop2 := H8.out.yes)
            refine hop2.mono ?_
            clear hop2
            rintro r w9 ⟨⟨fb, rfl⟩, b9⟩
            go_wp2
            go_ret
            exact ⟨rfl, (H8.out.on b9).bw⟩

          · as_aux_lemma =>
            have z1 : ¬ (k : Int) < (S : Int) := by omega
            have z2 : decide ((k : Int) < (S : Int)) = false := decide_eq_false z1
            clear hzl
            have hcv := conv_cell _ _ c (one_cell w2 c)
            obtain ⟨B, hB⟩ : ∃ B : ByteArray, B = T ++ ⟨#[c]⟩ := ⟨_, rfl⟩
            have hBs : B.size = T.size + 1 := by rw [hB, ByteArray.size_append]; rfl
            have hno : opA B = none := op_more HS.out.ok B c (by rw [hB, ← HS.out.txt]; simp)
            have bA : Below w2.heap.size w2 (w2.alloc (.cells #[.int .u8 c.toNat] 5)) := (Below.refl _ w2).alloc (Nat.le_refl _) _
            have hop := (HS.out.on bA).no B (by have := HS.out.len; omega) hno
            have hsum : ¬ (9223372036854775807 < T.size + (⟨#[c]⟩ : ByteArray).size) := by have := HS.out.len; show ¬ (9223372036854775807 < T.size + 1); omega
            have HH := Hid.mk (HS.out.on bA)
            have hB' : T ++ ⟨#[c]⟩ = B := hB.symm
            clear hB hno hBs bA
            go_wp2_with (go_at_call 10; refine hop.mono ?_; clear hop hcv; rintro r w8 ⟨rfl, b8⟩; have H8 := Hid.mk (HH.out.on b8); have hop2 := H8.out.yes)
            refine hop2.mono ?_
            clear hop2
            rintro r w9 ⟨⟨fb, rfl⟩, b9⟩
            go_wp2
            go_ret
            exact ⟨rfl, (H8.out.on b9).bw⟩
  · have hne : (bdE ⟨wd, t, bt, lo, hi, cn⟩ l == 0) = false := beq_false_of_ne hE
    have hT2 : bdT ⟨wd, t, bt, lo, hi, cn⟩ l = [] := by unfold bdT; rw [if_neg hE]
    rw [hT2] at hbd
    generalize bdE ⟨wd, t, bt, lo, hi, cn⟩ l = E at *
    clear hE hT2
    go_wp2_with (go_at_call 9; refine hbd.mono ?_; clear hbd; rintro r w2 ⟨rfl, b2⟩)
    go_ret
    exact ⟨rfl, chain H1.out b2 (Nat.le_refl _)⟩
end Go.Proofs.YtdegclccbgpgiaaDoor
set_option linter.unusedSimpArgs false
set_option linter.unusedVariables false
namespace Go.Proofs.YtdegclccbgpgiaaDoor
open Go.ChangeMaps (open_string shut_string)
open Go.ChangeShapes Go.WideShapes Go.ChangeAt Go.WideMaps Go.WideElems Go.RowKit Go.Proofs.SealMath
section
variable {H : Type} {enc : TypeId × Value → H} {P : Program} {w : World} {base : Nat} {spare : Nat → Bool} {held : Bool}
theorem trodAll_five {t t' t'' t3 t4 : TypeId} {args : Array Value} {ds : List (DataW H)} {ps : List MemPlace} (h : DataW.TrodAll enc P w base spare held [t, t', t'', t3, t4] args.toList ds ps) :
    ∃ v v' v'' v3 v4 d d' d'' d3 d4 p p' p'' p3 p4, args = #[v, v', v'', v3, v4] ∧ ds = [d, d', d'', d3, d4] ∧ ps = p ++ p' ++ p'' ++ p3 ++ p4 ∧ DataW.Trod enc P w base spare held t v d p ∧ DataW.Trod enc P w base spare held t' v' d' p' ∧ DataW.Trod enc P w base spare held t'' v'' d'' p'' ∧ DataW.Trod enc P w base spare held t3 v3 d3 p3 ∧ DataW.Trod enc P w base spare held t4 v4 d4 p4 := by
  obtain ⟨v, vs, d, ds', p, q, hargs, rfl, rfl, hd, hrest⟩ := trodAll_cons h
  obtain ⟨v', vs', d', ds'', p', q', rfl, rfl, rfl, hd', hrest'⟩ := trodAll_cons hrest
  obtain ⟨v'', vs'', d'', dsQ, p'', q'', rfl, rfl, rfl, hd'', hrest''⟩ := trodAll_cons hrest'
  obtain ⟨v3, vs3, d3, ds3, p3, q3, rfl, rfl, rfl, hd3, hrest3⟩ := trodAll_cons hrest''
  obtain ⟨v4, vs4, d4, ds4, p4, q4, rfl, rfl, rfl, hd4, hrest4⟩ := trodAll_cons hrest3
  obtain ⟨rfl, rfl, rfl⟩ := trodAll_nil hrest4
  exact ⟨v, v', v'', v3, v4, d, d', d'', d3, d4, p, p', p'', p3, p4, by cases args; simp_all, rfl, by simp, hd, hd', hd'', hd3, hd4⟩
theorem trodAll_mk5 {t t' t'' t3 t4 : TypeId} {v v' v'' v3 v4 : Value} {d d' d'' d3 d4 : DataW H} {p p' p'' p3 p4 : List MemPlace} (h : DataW.Trod enc P w base spare held t v d p) (h' : DataW.Trod enc P w base spare held t' v' d' p')
    (h'' : DataW.Trod enc P w base spare held t'' v'' d'' p'') (h3 : DataW.Trod enc P w base spare held t3 v3 d3 p3) (h4 : DataW.Trod enc P w base spare held t4 v4 d4 p4) : DataW.TrodAll enc P w base spare held [t, t', t'', t3, t4] [v, v', v'', v3, v4] [d, d', d'', d3, d4] (p ++ (p' ++ (p'' ++ (p3 ++ p4)))) := ⟨p, p' ++ (p'' ++ (p3 ++ p4)), h, trodAll_mk4 h' h'' h3 h4, rfl⟩
end
set_option maxRecDepth 100000 in
theorem spoilt_lifted (os : Os) (started : os.Started) (H : Type) (enc : TypeId × Value → H) :
    ReturnsInHanded {} Tryd.checked os 3 .any (fun w args => (Rows.blockSpoiltSpec.pre enc Tryd.prog Tryd.f3 [] false w args ∧ laidMetH Tryd.prog lst w) ∧ sizedMet enc Tryd.prog Tryd.f3 (OpenSpec.ofChange Rows.blockSpoiltSpec) false w args)
      (Rows.blockSpoiltSpec.post enc Tryd.prog Tryd.f3 false true false false) := by
  refine returnsInHanded_of_change_and (C := Tryd.checked) (X := fun w _ => laidMetH Tryd.prog lst w) (fun _ _ _ hh h => h.of_heap hh) own started (by kernel_rfl) Tryd.func3
    (ChangeSpec.witness_shaped (enc := enc) (C := Tryd.checked) (os := os) (X := fun w _ => laidMetH Tryd.prog lst w) false (World.doorLaid Tryd.prog 4000 os) #[.agg #[.int .i64 0, .int .i64 0, .int .i64 0, .int .i64 0, .int .i64 0, .int .i64 0], .slice none 0 0, .int .i64 0, .int .i64 0, .int .i64 0] 8 rfl (World.shaped_of_RefB (by kernel_rfl) (by kernel_rfl)) (by kernel_rfl) (by kernel_rfl) (by kernel_rfl) (door_met os _)) ?_
  intro W base args ds gs before hval0 hW _ hsz0 hL _
  have hsz : (DataW.weightsEach Tryd.prog (Tryd.f3.params.toList ++ Rows.blockSpoiltSpec.plain.varTypes Tryd.prog) (ds ++ gs)).all (· ≤ reachBytes) = true := hsz0
  clear hsz0
  have hval : ∀ (j : Nat) t v, Tryd.f3.params[j]? = some t → args[j]? = some v → Value.okWide Tryd.prog W .any base t v := hval0
  have hW' := hW
  obtain ⟨p, q, hA0, hV, rfl, hfz, hnd⟩ := hW
  have hA : DataW.TrodAll enc Tryd.prog W 0 (fun _ => true) true Tryd.f3.params.toList args.toList ds p := hA0
  rw [Tryd.params3] at hA hval hsz
  obtain ⟨v0, v1, v2, v3, v4, d0, d1, d2, d3, d4, p0, p1, p2, p3, p4, rfl, rfl, rfl, h0, h1, h2, h3, h4⟩ := trodAll_five hA
  obtain ⟨rfl, rfl⟩ := trodVars_none hV
  have h0k := h0
  obtain ⟨h, rfl⟩ := open_hd (hval 0 23 v0 rfl rfl) h0
  obtain ⟨a0, len, cap, rfl⟩ := okWide_slice Tryd.underlying24 (hval 1 24 v1 rfl rfl)
  have h1k := h1
  obtain ⟨fuel, hf⟩ := h1
  obtain ⟨x, rfl, rfl, rfl, wx⟩ := open_int Tryd.underlying3 (hval 2 3 v2 rfl rfl) h2
  obtain ⟨y, rfl, rfl, rfl, wy⟩ := open_int Tryd.underlying3 (hval 3 3 v3 rfl rfl) h3
  obtain ⟨z, rfl, rfl, rfl, wz⟩ := open_int Tryd.underlying3 (hval 4 3 v4 rfl rfl) h4
  clear hA0 hval0
  simp only [List.append_nil, List.nil_append] at hW'
  have hlt0 : ∀ x ∈ p0, x.block < W.heap.size := fun x hx => hW'.lt x (by simp [hx])
  have hlt1 : ∀ x ∈ p1, x.block < W.heap.size := fun x hx => hW'.lt x (by simp [hx])
  have ht := tab_of hL
  have hg0 := tab_pos ht
  have e1 : Rows.blockSpoiltSpec.fn H ([d0, d1, .lit (.int .i64 x), .lit (.int .i64 y), .lit (.int .i64 z)] ++ []) = { results := [.lit (.bool true)], args := [d0, d1, .lit (.int .i64 x), .lit (.int .i64 y), .lit (.int .i64 z)] } := by simp [Rows.blockSpoiltSpec]
  have fin : ∀ (e : Ending) (W' : World), (e = .returned (.bool true) ∧ Below W.heap.size W W') → ∃ v, e = .returned v ∧ Rows.blockSpoiltSpec.post enc Tryd.prog Tryd.f3 false true false false W #[.agg (hdC h).toArray, .slice a0 len cap, .int .i64 x, .int .i64 y, .int .i64 z] v W' := by
    rintro e W' ⟨rfl, hbl⟩
    refine ⟨_, rfl, _, _, _, [], p0 ++ p1, [], hW', ?_, ?_, ?_, hbl.frame _, fun h => by cases h⟩
    · rw [e1]; exact trodAll_mk1 (shut_bool Tryd.underlying4 true)
    · rw [e1]; have h5 := trodAll_mk5 (Below.trod laidOut (by kernel_rfl) (of_decide_eq_true (by kernel_rfl)) h0k hbl hlt0) (Below.trod laidOut (by kernel_rfl) (of_decide_eq_true (by kernel_rfl)) h1k hbl hlt1) (shut_int Tryd.underlying3 wx) (shut_int Tryd.underlying3 wy) (shut_int Tryd.underlying3 wz); (try simp only [List.append_nil, List.nil_append] at h5); exact h5
    · rw [e1]; rfl
  have hcap := open_enc (show DataW.trod enc Tryd.prog W 0 (fun _ => true) true fuel 24 [.slice a0 len cap] = some (d1, p1) by simpa [Value.cells] using hf)
  rcases open_ens (by simpa [Value.cells] using hf) with ⟨rfl, rfl⟩ | ⟨⟨l, hl, hLl⟩, -⟩
  · exact (law_spoilt6 h [] none cap x y z W ht hg0 ⟨fun h => absurd rfl h⟩ (Nat.zero_le _)).mono fin
  · subst hl
    exact (law_spoilt6 h l a0 cap x y z W ht hg0 hLl hcap).mono fin

theorem spoilt_row : Rows.BlockSpoiltSaid :=
  OpenClaim.holds_of_wide 3 Tryd.f3 rfl rfl rfl rfl rfl rfl rfl ⟨rfl, rfl, rfl, rfl, rfl⟩ rfl rfl rfl rfl rfl (by kernel_rfl) Tryd.func3 (by kernel_rfl)
    (of_decide_eq_true (by kernel_rfl)) (by unfold Func.isWrapper; rw [if_neg (of_decide_eq_false (by kernel_rfl))]; exact ⟨rfl, rfl⟩)
    (fun os started H enc _ => spoilt_lifted os started H enc)
theorem spoilt_holds : Rows.BlockSpoiltCardSaid :=
  Claim7.holds_tied_plain_at .later [] [.called] true (true, "0abfb72c16ebaf4a0467999375ad9d7ca9872b7158b3469ea3fbf7b9b295d44a") false
    spoilt_row (fun _ h => by cases h) (by kernel_rfl) (fun _ h => by cases h) blockSpoilt_row_tie rfl ⟨rfl, rfl⟩ (by kernel_rfl) rfl
    (fun f fn hf hfn => by
      obtain rfl : f = 3 := Option.some.inj ((show Tryd.prog.funcNamed "kindred/kindredlaw6.BlockSpoilt" = some 3 by kernel_rfl).symm.trans hf) |>.symm
      obtain rfl : fn = Tryd.f3 := (Option.some.inj (Tryd.func3.symm.trans hfn)).symm
      exact ⟨by kernel_rfl, fun j t ht => by
        rw [Tryd.params3] at ht
        have hm : t ∈ [23, 24, 3, 3, 3] := by simpa using Array.mem_of_getElem? ht
        have hall : ([23, 24, 3, 3, 3].all fun u => !Tryd.prog.wantsStandIn u) = true := by kernel_rfl
        exact (show Tryd.prog.wantsStandIn t = false by simpa using List.all_eq_true.1 hall t hm)⟩)
    (by kernel_rfl)
#print axioms spoilt_holds
end Go.Proofs.YtdegclccbgpgiaaDoor
