/-
  DERIVED. Whole numbers as doubles: below 2^53 sums, differences and products of them are exact.
-/
import Derived.Laws.ComplexArith
set_option linter.unusedVariables false
set_option linter.unusedSimpArgs false
namespace Go.Proofs.FloatMath
open Ieee
/-- What this datum stands for is the whole number n. -/
def Rep (d : Datum) (n : Int) : Prop := ∃ (s : Bool) (k : Nat), d = .number s (n.natAbs * 2 ^ k) (-(k : Int)) ∧ (n < 0 → s = true) ∧ (0 < n → s = false)
theorem rep0 (s : Bool) (k : Nat) : Rep (.number s 0 (-(k : Int))) 0 := ⟨s, k, by simp, by simp, by simp⟩
theorem shl (a b : Nat) : a <<< b = a * 2 ^ b := Nat.shiftLeft_eq a b
theorem signed_rep {s : Bool} {n : Int} (h1 : n < 0 → s = true) (h2 : 0 < n → s = false) (k j : Nat) : signed s (n.natAbs * 2 ^ k) j = n * 2 ^ (k + j) := by
  unfold signed
  rw [shl, Nat.mul_assoc, ← Nat.pow_add]
  rcases Int.lt_trichotomy n 0 with h | h | h
  · rw [h1 h, if_pos rfl, Int.natCast_mul, Int.natCast_pow]
    rw [Int.ofNat_natAbs_of_nonpos (by omega), Int.neg_mul, Int.neg_neg]; rfl
  · subst h; simp
  · rw [h2 h, if_neg (by simp), Int.natCast_mul, Int.natCast_pow]
    rw [Int.natAbs_of_nonneg (by omega)]; rfl
theorem pow_pos_int (k : Nat) : (0 : Int) < 2 ^ k := Int.pow_pos (by decide)
theorem natAbs_mul_pow (a : Int) (k : Nat) : (a * 2 ^ k).natAbs = a.natAbs * 2 ^ k := by
  rw [Int.natAbs_mul, Int.natAbs_pow]; rfl
theorem mul_pow_neg {a : Int} {k : Nat} : a * 2 ^ k < 0 ↔ a < 0 := by
  have h := pow_pos_int k
  constructor
  · intro h2
    rcases (show a < 0 ∨ 0 ≤ a by omega) with h3 | h3
    · exact h3
    · have := Int.mul_nonneg h3 (Int.le_of_lt h); omega
  · intro h2
    exact Int.mul_neg_of_neg_of_pos h2 h
theorem mul_pow_zero {a : Int} {k : Nat} : a * 2 ^ k = 0 ↔ a = 0 := by
  have h := pow_pos_int k
  rw [Int.mul_eq_zero]
  constructor
  · rintro (h1 | h1)
    · exact h1
    · omega
  · exact .inl
theorem Rep.sum {d e : Datum} {a b : Int} (h : Rep d a) (k : Rep e b) : ∃ f, d.sum e = some f ∧ Rep f (a + b) := by
  obtain ⟨s, i, rfl, h1, h2⟩ := h
  obtain ⟨t, j, rfl, k1, k2⟩ := k
  have e0 : min (-(i : Int)) (-(j : Int)) = -((max i j : Nat) : Int) := by omega
  have ei : (-(i : Int) - -((max i j : Nat) : Int)).toNat = max i j - i := by omega
  have ej : (-(j : Int) - -((max i j : Nat) : Int)).toNat = max i j - j := by omega
  have et : signed s (a.natAbs * 2 ^ i) (max i j - i) + signed t (b.natAbs * 2 ^ j) (max i j - j) = (a + b) * 2 ^ (max i j) := by
    rw [signed_rep h1 h2, signed_rep k1 k2, Int.add_mul]
    congr 2 <;> congr 1 <;> omega
  refine ⟨_, rfl, ?_⟩
  simp only [e0, ei, ej, et]
  refine ⟨_, max i j, by rw [natAbs_mul_pow], fun hn => ?_, fun hp => ?_⟩
  · rw [if_neg (by rw [mul_pow_zero]; omega)]
    simpa using mul_pow_neg.2 hn
  · rw [if_neg (by rw [mul_pow_zero]; omega)]
    have : ¬ ((a + b) * 2 ^ max i j < 0) := by rw [mul_pow_neg]; omega
    simpa using this
theorem Rep.neg {d : Datum} {a : Int} (h : Rep d a) : Rep d.opposite (-a) := by
  obtain ⟨s, i, rfl, h1, h2⟩ := h
  refine ⟨!s, i, by simp [Datum.opposite], fun hn => ?_, fun hp => ?_⟩
  · rw [h2 (by omega)]; rfl
  · rw [h1 (by omega)]; rfl
theorem Rep.mul {d e : Datum} {a b : Int} (h : Rep d a) (k : Rep e b) : ∃ f, d.product e = some f ∧ Rep f (a * b) := by
  obtain ⟨s, i, rfl, h1, h2⟩ := h
  obtain ⟨t, j, rfl, k1, k2⟩ := k
  refine ⟨_, rfl, s ^^ t, i + j, ?_, ?_, ?_⟩
  · congr 1
    · rw [Int.natAbs_mul, Nat.pow_add]
      generalize a.natAbs = x; generalize b.natAbs = y; generalize (2 : Nat) ^ i = p; generalize (2 : Nat) ^ j = q
      rw [Nat.mul_assoc, Nat.mul_assoc, Nat.mul_left_comm p y q]
    · omega
  · intro hn
    rcases Int.lt_trichotomy a 0 with ha | ha | ha
    · rcases Int.lt_trichotomy b 0 with hb | hb | hb
      · have := Int.mul_pos_of_neg_of_neg ha hb; omega
      · subst hb; simp at hn
      · rw [h1 ha, k2 hb]; rfl
    · subst ha; simp at hn
    · rcases Int.lt_trichotomy b 0 with hb | hb | hb
      · rw [h2 ha, k1 hb]; rfl
      · subst hb; simp at hn
      · have := Int.mul_pos ha hb; omega
  · intro hp
    rcases Int.lt_trichotomy a 0 with ha | ha | ha
    · rcases Int.lt_trichotomy b 0 with hb | hb | hb
      · rw [h1 ha, k1 hb]; rfl
      · subst hb; simp at hp
      · have := Int.mul_neg_of_neg_of_pos ha hb; omega
    · subst ha; simp at hp
    · rcases Int.lt_trichotomy b 0 with hb | hb | hb
      · have := Int.mul_neg_of_pos_of_neg ha hb; omega
      · subst hb; simp at hp
      · rw [h2 ha, k2 hb]; rfl
theorem cut_exact (s : Bool) (q d : Nat) (hd : d ≤ (q * 2 ^ d).log2 + 2) (way : Toward) : way.cut s (q * 2 ^ d) d = q := by
  unfold Toward.cut
  have hp : 0 < 2 ^ d := Nat.two_pow_pos d
  simp only [Nat.min_eq_left hd, shl, Nat.one_mul, Nat.mul_div_cancel _ hp, Nat.mul_mod_left]
  cases way <;> simp [Nat.ne_of_gt hp] <;> omega
theorem log2_mul_pow (n k : Nat) (hn : n ≠ 0) : (n * 2 ^ k).log2 = n.log2 + k := by
  have hp : 0 < 2 ^ k := Nat.two_pow_pos k
  have h0 : n * 2 ^ k ≠ 0 := by
    intro h
    rcases Nat.mul_eq_zero.1 h with h | h
    · exact hn h
    · omega
  rw [Nat.log2_eq_iff h0]
  have h1 := Nat.log2_self_le hn
  have h2 : n < 2 ^ (n.log2 + 1) := Nat.lt_log2_self
  constructor
  · rw [Nat.pow_add]; exact Nat.mul_le_mul_right _ h1
  · rw [show n.log2 + k + 1 = (n.log2 + 1) + k by omega, Nat.pow_add]
    exact Nat.mul_lt_mul_of_pos_right h2 hp
theorem word_read (s : Bool) (r : Nat) (hr : r < 2 ^ 63) : double.read (double.word s r) = if r < 2 ^ 52 then .number s r (-1074) else if r < 2047 * 2 ^ 52 then .number s (2 ^ 52 + r % 2 ^ 52) (-1074 + (r / 2 ^ 52 - 1 : Nat)) else if r = 2047 * 2 ^ 52 then .infinity s else .nan s (r - 2047 * 2 ^ 52) := by
  have e1 : double.signWeight = 2 ^ 63 := rfl
  have e2 : double.binade = 2 ^ 52 := rfl
  have e3 : double.infRung = 2047 * 2 ^ 52 := rfl
  have e4 : double.leastPlace = -1074 := rfl
  unfold Format.read Format.word
  rw [e1, e2, e3, e4]
  cases s
  · have h1 : r / 2 ^ 63 = 0 := Nat.div_eq_of_lt hr
    have h2 : r % 2 ^ 63 = r := Nat.mod_eq_of_lt hr
    simp only [Bool.false_eq_true, if_false, h1, h2]
    rfl
  · have h1 : (2 ^ 63 + r) / 2 ^ 63 = 1 := by omega
    have h2 : (2 ^ 63 + r) % 2 ^ 63 = r := by omega
    simp only [if_true, h1, h2]
    rfl
/-- A whole number below 2^53 is written exactly. -/
theorem Rep.write {d : Datum} {n : Int} (h : Rep d n) (hn : n.natAbs < 2 ^ 53) : Rep (double.read (double.write d)) n := by
  obtain ⟨s, k, rfl, h1, h2⟩ := h
  by_cases h0 : n = 0
  · subst h0
    have e : double.write (.number s (Int.natAbs 0 * 2 ^ k) (-(k : Int))) = double.word s 0 := by
      show double.nearest _ _ _ = _
      unfold Format.nearest
      rw [if_pos (by simp)]
    rw [e, word_read s 0 (by decide), if_pos (by decide)]
    exact rep0 s 1074
  · have hm0 : n.natAbs ≠ 0 := by omega
    generalize hm : n.natAbs = m at *
    have hp : 0 < 2 ^ k := Nat.two_pow_pos k
    have hL : m.log2 < 53 := by rw [Nat.log2_lt hm0]; exact hn
    obtain ⟨L, eL⟩ : ∃ L, m.log2 = L := ⟨_, rfl⟩
    rw [eL] at hL
    have hl1 : 2 ^ L ≤ m := eL ▸ Nat.log2_self_le hm0
    have hl2 : m < 2 ^ (L + 1) := eL ▸ Nat.lt_log2_self
    have hlog : (m * 2 ^ k).log2 = L + k := by rw [log2_mul_pow m k hm0, eL]
    have hne : m * 2 ^ k ≠ 0 := Nat.mul_ne_zero hm0 (Nat.ne_of_gt hp)
    have hkept : ∀ (sh dr : Nat), sh = 52 - L - k → dr = L + k - 52 → Toward.even.cut s ((m * 2 ^ k) <<< sh) dr = m * 2 ^ (52 - L) := by
      intro sh dr e1 e2
      rcases Nat.le_total (L + k) 52 with hc | hc
      · have e3 : dr = 0 := by omega
        have e4 : (m * 2 ^ k) <<< sh = m * 2 ^ (52 - L) := by
          rw [shl, Nat.mul_assoc, ← Nat.pow_add, e1, show k + (52 - L - k) = 52 - L by omega]
        rw [e3, e4]
        have := cut_exact s (m * 2 ^ (52 - L)) 0 (by omega) .even
        simpa using this
      · have e3 : sh = 0 := by omega
        have e4 : (m * 2 ^ k) <<< sh = (m * 2 ^ (52 - L)) * 2 ^ dr := by
          rw [e3, Nat.shiftLeft_zero, Nat.mul_assoc, ← Nat.pow_add, show 52 - L + dr = k by omega]
        rw [e4]
        refine cut_exact s _ dr ?_ .even
        rw [← e4, e3, Nat.shiftLeft_zero, hlog]; omega
    have hw : double.write (.number s (m * 2 ^ k) (-(k : Int))) = double.word s ((L + 1022) * 2 ^ 52 + m * 2 ^ (52 - L)) := by
      show double.nearest s (m * 2 ^ k) (-(k : Int)) = _
      have e4 : double.leastPlace = -1074 := rfl
      have e5 : (double.fractionBits : Int) = 52 := rfl
      unfold Format.nearest
      rw [if_neg hne, hlog, e4, e5]
      have emax : max (-(k : Int) + ((L + k : Nat) : Int) - 52) (-1074) = (L : Int) - 52 := by omega
      simp only [emax]
      rw [hkept _ _ (by omega) (by omega)]
      have e2 : double.binade = 2 ^ 52 := rfl
      have e3 : double.infRung = 2047 * 2 ^ 52 := rfl
      rw [e2, e3, show ((L : Int) - 52 - -1074).toNat = L + 1022 by omega]
      congr 1
      refine Nat.min_eq_left ?_
      have : m * 2 ^ (52 - L) < 2 ^ (L + 1) * 2 ^ (52 - L) := Nat.mul_lt_mul_of_pos_right hl2 (Nat.two_pow_pos _)
      rw [← Nat.pow_add, show L + 1 + (52 - L) = 53 by omega] at this
      omega
    rw [hw]
    have hk2 : m * 2 ^ (52 - L) < 2 ^ 53 := by
      have : m * 2 ^ (52 - L) < 2 ^ (L + 1) * 2 ^ (52 - L) := Nat.mul_lt_mul_of_pos_right hl2 (Nat.two_pow_pos _)
      rwa [← Nat.pow_add, show L + 1 + (52 - L) = 53 by omega] at this
    have hk1 : 2 ^ 52 ≤ m * 2 ^ (52 - L) := by
      have : 2 ^ L * 2 ^ (52 - L) ≤ m * 2 ^ (52 - L) := Nat.mul_le_mul_right _ hl1
      rwa [← Nat.pow_add, show L + (52 - L) = 52 by omega] at this
    obtain ⟨K, eK⟩ : ∃ K, m * 2 ^ (52 - L) = K := ⟨_, rfl⟩
    rw [eK] at hk1 hk2 ⊢
    rw [word_read s _ (by omega), if_neg (by omega), if_pos (by omega)]
    refine ⟨s, 52 - L, ?_, h1, h2⟩
    rw [hm, eK]
    congr 1 <;> omega
theorem Rep.toInt {d : Datum} {n : Int} (h : Rep d n) : d.toInt .zero = some n := by
  obtain ⟨s, k, rfl, h1, h2⟩ := h
  unfold Datum.toInt Datum.integral
  have e1 : (-(k : Int)).toNat = 0 := by omega
  have e2 : (-(-(k : Int))).toNat = k := by omega
  simp only [e1, e2, Nat.shiftLeft_zero]
  have hc : Toward.zero.cut s (n.natAbs * 2 ^ k) k = n.natAbs := by
    by_cases h0 : n = 0
    · subst h0; simp [Toward.cut]
    · have hm0 : n.natAbs ≠ 0 := by omega
      exact cut_exact s _ k (by rw [log2_mul_pow _ _ hm0]; omega) .zero
  rw [hc]
  have := signed_rep h1 h2 0 0
  simpa using this
/-- The bits x stand for the whole number n. -/
def FI (x : Nat) (n : Int) : Prop := Rep (FloatKind.f64.decode x) n
theorem fi_of (n : Int) (hn : n.natAbs < 2 ^ 53) : FI (floatOfInt .f64 n) n := by
  have h : Rep (.number (n < 0) n.natAbs 0) n := ⟨decide (n < 0), 0, by simp, fun h => by simpa using h, fun h => by simp; omega⟩
  exact Rep.write h hn
theorem FI.add {x y : Nat} {a b : Int} (h : FI x a) (k : FI y b) (hn : (a + b).natAbs < 2 ^ 53) : ∃ r, floatBits .add .f64 x y = some r ∧ FI r (a + b) := by
  obtain ⟨f, e, hf⟩ := Rep.sum h k
  refine ⟨double.write f, ?_, Rep.write hf hn⟩
  show ((double.read x).sum (double.read y)).map double.write = _
  rw [show (double.read x).sum (double.read y) = some f from e]; rfl
theorem FI.sub {x y : Nat} {a b : Int} (h : FI x a) (k : FI y b) (hn : (a - b).natAbs < 2 ^ 53) : ∃ r, floatBits .sub .f64 x y = some r ∧ FI r (a - b) := by
  obtain ⟨f, e, hf⟩ := Rep.sum h (Rep.neg k)
  refine ⟨double.write f, ?_, Rep.write (by rw [Int.sub_eq_add_neg]; exact hf) hn⟩
  show ((double.read x).sum (double.read y).opposite).map double.write = _
  rw [show (double.read x).sum (double.read y).opposite = some f from e]; rfl
theorem FI.mul {x y : Nat} {a b : Int} (h : FI x a) (k : FI y b) (hn : (a * b).natAbs < 2 ^ 53) : ∃ r, floatBits .mul .f64 x y = some r ∧ FI r (a * b) := by
  obtain ⟨f, e, hf⟩ := Rep.mul h k
  refine ⟨double.write f, ?_, Rep.write hf hn⟩
  show ((double.read x).product (double.read y)).map double.write = _
  rw [show (double.read x).product (double.read y) = some f from e]; rfl
theorem FI.int {x : Nat} {n : Int} (h : FI x n) (h1 : -9223372036854775808 ≤ n) (h2 : n ≤ 9223372036854775807) : floatToIntVal .f64 x .i64 = some n := by
  unfold floatToIntVal
  rw [Rep.toInt h]
  exact if_pos ⟨h1, h2⟩
/-- Two numbers of bits stand for a whole complex number. -/
def CI (x y : Nat) (a b : Int) : Prop := FI x a ∧ FI y b
theorem CI.add {x y z u : Nat} {a b c d : Int} (h : CI x y a b) (k : CI z u c d) (h1 : (a + c).natAbs < 2 ^ 53) (h2 : (b + d).natAbs < 2 ^ 53) : ∃ p q, cSumBits .add .f64 x y z u = some (p, q) ∧ CI p q (a + c) (b + d) := by
  obtain ⟨p, e1, f1⟩ := FI.add h.1 k.1 h1
  obtain ⟨q, e2, f2⟩ := FI.add h.2 k.2 h2
  exact ⟨p, q, by unfold cSumBits; rw [e1, e2]; rfl, f1, f2⟩
theorem CI.mul {x y z u : Nat} {a b c d : Int} (h : CI x y a b) (k : CI z u c d) (h1 : (a * c).natAbs < 2 ^ 53) (h2 : (b * d).natAbs < 2 ^ 53) (h3 : (a * d).natAbs < 2 ^ 53) (h4 : (b * c).natAbs < 2 ^ 53) (h5 : (a * c - b * d).natAbs < 2 ^ 53) (h6 : (a * d + b * c).natAbs < 2 ^ 53) :
    ∃ p q, cMulBits x y z u = some (p, q) ∧ CI p q (a * c - b * d) (a * d + b * c) := by
  obtain ⟨r1, e1, f1⟩ := FI.mul h.1 k.1 h1
  obtain ⟨r2, e2, f2⟩ := FI.mul h.2 k.2 h2
  obtain ⟨r3, e3, f3⟩ := FI.mul h.1 k.2 h3
  obtain ⟨r4, e4, f4⟩ := FI.mul h.2 k.1 h4
  obtain ⟨p, e5, f5⟩ := FI.sub f1 f2 h5
  obtain ⟨q, e6, f6⟩ := FI.add f3 f4 h6
  exact ⟨p, q, by unfold cMulBits; simp [e1, e2, e3, e4, e5, e6], f5, f6⟩
/-- The bits of the numbers that the code names. -/
theorem fi_zero : FI 0 0 := by
  unfold FI
  rw [show FloatKind.f64.decode 0 = .number false 0 (-((1074 : Nat) : Int)) from by decide]
  exact rep0 _ _
theorem fi_one : FI 4607182418800017408 1 := ⟨false, 52, by decide, by simp, by simp⟩
theorem fi_neg : FI 13830554455654793216 (-1) := ⟨true, 52, by decide, by simp, by simp⟩
theorem fi_nzero : FI 9223372036854775808 0 := by
  unfold FI
  rw [show FloatKind.f64.decode 9223372036854775808 = .number true 0 (-((1074 : Nat) : Int)) from by decide]
  exact rep0 _ _
end Go.Proofs.FloatMath
