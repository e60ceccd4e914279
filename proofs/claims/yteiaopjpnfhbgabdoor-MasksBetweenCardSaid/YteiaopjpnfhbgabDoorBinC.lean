/-
  DERIVED. The mask behind a mask. No Go.
-/
import Derived.Test.YteiaopjpnfhbgabDoorBinB
import Derived.Lib.TrailingZeros
namespace Go.Proofs.MaskMath
/-- A block of ones from bit l on, nothing below it. -/
theorem blk {x l : Nat} (h0 : ∀ i, i < l → x.testBit i = false) : ∀ t, (∀ i, l ≤ i → i < l + t → x.testBit i = true) → wt (l + t) x = t ∧ rk (l + t) x + 1 = ch (l + t) t
  | 0, _ => by
    have e1 : wt l x = wt l 0 := wt_congr l (fun i hi => by rw [h0 i hi]; simp)
    have e2 : rk l x = rk l 0 := rk_congr l (fun i hi => by rw [h0 i hi]; simp)
    have e3 : ∀ n, rk n 0 = 0 := by
      intro n
      induction n with
      | zero => rfl
      | succ n ih => rw [rk_no (by simp), ih]
    rw [Nat.add_zero, e1, e2, wt_zero, e3, ch_zero]; simp
  | t + 1, h => by
    obtain ⟨h1, h2⟩ := blk h0 t (fun i a b => h i a (by omega))
    have hb := h (l + t) (by omega) (by omega)
    rw [show l + (t + 1) = l + t + 1 by omega, wt_yes hb, rk_yes hb, h1, ch_succ]
    omega
/-- Bits that are not there change nothing. -/
theorem gap {x a : Nat} : ∀ t, (∀ i, a ≤ i → i < a + t → x.testBit i = false) → wt (a + t) x = wt a x ∧ rk (a + t) x = rk a x
  | 0, _ => ⟨rfl, rfl⟩
  | t + 1, h => by
    obtain ⟨h1, h2⟩ := gap t (fun i p q => h i p (by omega))
    have hb := h (a + t) (by omega) (by omega)
    rw [show a + (t + 1) = a + t + 1 by omega, wt_no hb, rk_no hb]
    exact ⟨h1, h2⟩
/-- Two that are alike from bit j on, and of one weight below. -/
theorem high_same {a b j : Nat} (hw : wt j a = wt j b) : ∀ t, (∀ i, j ≤ i → i < j + t → a.testBit i = b.testBit i) → wt (j + t) a = wt (j + t) b ∧ rk (j + t) a + rk j b = rk (j + t) b + rk j a
  | 0, _ => ⟨hw, by simp only [Nat.add_zero]; omega⟩
  | t + 1, h => by
    obtain ⟨h1, h2⟩ := high_same hw t (fun i p q => h i p (by omega))
    have hb := h (j + t) (by omega) (by omega)
    rw [show j + (t + 1) = j + t + 1 by omega]
    cases hc : b.testBit (j + t)
    · rw [hc] at hb
      rw [wt_no hb, wt_no hc, rk_no hb, rk_no hc]; exact ⟨h1, h2⟩
    · rw [hc] at hb
      rw [wt_yes hb, wt_yes hc, rk_yes hb, rk_yes hc, h1]; exact ⟨rfl, by omega⟩
/-- A mask with its lowest ones: d above, a block of k ones from bit l on. -/
def mk (d l k : Nat) : Nat := 2 ^ (l + k + 1) * d + 2 ^ l * (2 ^ k - 1)
/-- The one behind it. -/
def nx (d l k : Nat) : Nat := 2 ^ (l + k + 1) * d + (2 ^ (l + k) + (2 ^ (k - 1) - 1))
theorem mk_low (l k : Nat) : 2 ^ l * (2 ^ k - 1) < 2 ^ (l + k + 1) := by
  have h1 : 2 ^ l * (2 ^ k - 1) < 2 ^ l * 2 ^ k := Nat.mul_lt_mul_of_pos_left (by have := Nat.two_pow_pos k; omega) (Nat.two_pow_pos l)
  rw [← Nat.pow_add] at h1
  rw [Nat.pow_succ]; omega
theorem nx_low (l k : Nat) : 2 ^ (k - 1) - 1 < 2 ^ (l + k) := by
  have : 2 ^ (k - 1) ≤ 2 ^ (l + k) := Nat.pow_le_pow_right (by omega) (by omega)
  have := Nat.two_pow_pos (k - 1)
  omega
theorem mk_bit (d l k i : Nat) : (mk d l k).testBit i = if i < l + k + 1 then (decide (l ≤ i) && decide (i < l + k)) else d.testBit (i - (l + k + 1)) := by
  unfold mk
  rw [Nat.testBit_two_pow_mul_add _ (mk_low l k)]
  by_cases h : i < l + k + 1
  · rw [if_pos h, if_pos h, Nat.testBit_two_pow_mul, Nat.testBit_two_pow_sub_one]
    by_cases h2 : l ≤ i
    · have e : decide (i - l < k) = decide (i < l + k) := decide_eq_decide.2 (by omega)
      simp [h2, e]
    · simp [h2]
  · rw [if_neg h, if_neg h]
theorem nx_bit (d l k i : Nat) : (nx d l k).testBit i = if i < l + k + 1 then (decide (i = l + k) || decide (i < k - 1)) else d.testBit (i - (l + k + 1)) := by
  have hl := nx_low l k
  unfold nx
  rw [Nat.testBit_two_pow_mul_add _ (by rw [Nat.pow_succ]; omega)]
  by_cases h : i < l + k + 1
  · rw [if_pos h, if_pos h]
    by_cases h2 : i = l + k
    · subst h2; rw [add_bit hl]; simp
    · rw [add_low (by omega), Nat.testBit_two_pow_sub_one]; simp [h2]
  · rw [if_neg h, if_neg h]
theorem nx_spec (d l k t : Nat) (hk : 0 < k) : wt (l + k + 1 + t) (nx d l k) = wt (l + k + 1 + t) (mk d l k) ∧ rk (l + k + 1 + t) (nx d l k) = rk (l + k + 1 + t) (mk d l k) + 1 := by
  have m1 := blk (x := mk d l k) (l := l) (fun i hi => by rw [mk_bit, if_pos (by omega)]; simp; omega) k (fun i h1 h2 => by rw [mk_bit, if_pos (by omega)]; simp; omega)
  have mb : (mk d l k).testBit (l + k) = false := by rw [mk_bit, if_pos (by omega)]; simp
  have n1 := blk (x := nx d l k) (l := 0) (fun i hi => by omega) (k - 1) (fun i h1 h2 => by rw [nx_bit, if_pos (by omega)]; simp; omega)
  have n2 := gap (x := nx d l k) (a := k - 1) (l + 1) (fun i h1 h2 => by rw [nx_bit, if_pos (by omega)]; simp; omega)
  have nb : (nx d l k).testBit (l + k) = true := by rw [nx_bit, if_pos (by omega)]; simp
  rw [show k - 1 + (l + 1) = l + k by omega] at n2
  rw [Nat.zero_add, ch_self] at n1
  have w1 : wt (l + k + 1) (mk d l k) = k := by rw [wt_no mb]; exact m1.1
  have w2 : wt (l + k + 1) (nx d l k) = k := by rw [wt_yes nb, n2.1, n1.1]; omega
  have r1 : rk (l + k + 1) (mk d l k) + 1 = ch (l + k) k := by rw [rk_no mb]; exact m1.2
  have r2 : rk (l + k + 1) (nx d l k) = ch (l + k) k := by
    rw [rk_yes nb, n2.1, n2.2, n1.1, show k - 1 + 1 = k by omega]; omega
  have hs := high_same (a := nx d l k) (b := mk d l k) (j := l + k + 1) (by omega) t (fun i h1 h2 => by rw [mk_bit, nx_bit, if_neg (by omega), if_neg (by omega)])
  exact ⟨hs.1, by omega⟩
theorem odd_split (c : Nat) : ∃ k d, 0 < k ∧ 2 * c + 2 = 2 ^ k * (2 * d + 1) := by
  obtain ⟨m, hm, _⟩ := Lib.ctzFrom_spec (2 * c + 2) (2 * c + 2) (by omega) Nat.lt_two_pow_self
  refine ⟨_, m, ?_, hm⟩
  cases h : Lib.ctzFrom (2 * c + 2) (2 * c + 2) with
  | zero => rw [h] at hm; simp at hm; omega
  | succ j => omega
/-- Every mask but 0 has such ones; its lowest is bit l. -/
theorem mk_split {x l c : Nat} (hx : x = 2 ^ l * (2 * c + 1)) : ∃ d k, 0 < k ∧ x = mk d l k ∧ x + 2 ^ l = 2 ^ (l + k + 1) * d + 2 ^ (l + k) := by
  obtain ⟨k, d, hk, h⟩ := odd_split c
  have e1 : x + 2 ^ l = 2 ^ (l + k + 1) * d + 2 ^ (l + k) := by
    have : x + 2 ^ l = 2 ^ l * (2 * c + 2) := by rw [hx, ← Nat.mul_succ]
    rw [this, h, Nat.mul_add, Nat.mul_one, Nat.mul_add, ← Nat.pow_add, Nat.pow_succ, ← Nat.mul_assoc, ← Nat.mul_assoc, Nat.mul_assoc (2 ^ (l + k)) 2 d]
    rw [← Nat.pow_add, Nat.mul_assoc (2 ^ (l + k)) 2 d]
  refine ⟨d, k, hk, ?_, e1⟩
  unfold mk
  have h2 : 2 ^ l * (2 ^ k - 1) + 2 ^ l = 2 ^ (l + k) := by
    have h3 : 2 ^ k - 1 + 1 = 2 ^ k := by have := Nat.two_pow_pos k; omega
    rw [← Nat.mul_succ, Nat.succ_eq_add_one, h3, Nat.pow_add]
  omega
theorem nx_gt (d l k : Nat) : mk d l k < nx d l k := by
  have h2 : 2 ^ l * (2 ^ k - 1) + 2 ^ l = 2 ^ (l + k) := by
    have h3 : 2 ^ k - 1 + 1 = 2 ^ k := by have := Nat.two_pow_pos k; omega
    rw [← Nat.mul_succ, Nat.succ_eq_add_one, h3, Nat.pow_add]
  have := Nat.two_pow_pos l
  unfold mk nx
  omega
/-- What the bits between make. -/
theorem xor_part (d l k : Nat) (hk : 0 < k) : (mk d l k ^^^ (2 ^ (l + k + 1) * d + 2 ^ (l + k))) / 2 ^ (l + 2) = 2 ^ (k - 1) - 1 := by
  have hp : 2 ^ (l + k) < 2 ^ (l + k + 1) := by rw [Nat.pow_succ]; have := Nat.two_pow_pos (l + k); omega
  apply Nat.eq_of_testBit_eq
  intro i
  rw [Nat.testBit_div_two_pow, Nat.testBit_xor, mk_bit, Nat.testBit_two_pow_mul_add _ hp, Nat.testBit_two_pow_sub_one]
  by_cases h : l + 2 + i < l + k + 1
  · rw [if_pos (by omega), if_pos (by omega), Nat.testBit_two_pow]
    by_cases h2 : i + 2 = k
    · have : l + k = i + (l + 2) := by omega
      simp [this]; omega
    · have h3 : ¬ l + k = i + (l + 2) := by omega
      have h4 : i + (l + 2) < l + k := by omega
      have h5 : l ≤ i + (l + 2) := by omega
      have h6 : i < k - 1 := by omega
      simp [h3, h4, h5, h6]
  · rw [if_neg (by omega), if_neg (by omega)]
    simp; omega
theorem or_part (d l k : Nat) : (2 ^ (l + k + 1) * d + 2 ^ (l + k)) ||| (2 ^ (k - 1) - 1) = nx d l k := by
  have hp : 2 ^ (l + k) < 2 ^ (l + k + 1) := by rw [Nat.pow_succ]; have := Nat.two_pow_pos (l + k); omega
  apply Nat.eq_of_testBit_eq
  intro i
  rw [Nat.testBit_or, nx_bit, Nat.testBit_two_pow_mul_add _ hp, Nat.testBit_two_pow_sub_one]
  by_cases h : i < l + k + 1
  · rw [if_pos h, if_pos h, Nat.testBit_two_pow]
    congr 1
    exact decide_eq_decide.2 (by omega)
  · rw [if_neg h, if_neg h]
    have : ¬ i < k - 1 := by omega
    simp [this]
/-- Whether there is a mask behind it, and which: its place tells. -/
theorem nx_place {n d l k : Nat} (hk : 0 < k) (hm : mk d l k < 2 ^ n) :
    (nx d l k < 2 ^ n → rk n (mk d l k) + 1 < ch n (wt n (mk d l k)) ∧ unr n (wt n (mk d l k)) (rk n (mk d l k) + 1) = nx d l k) ∧
    (2 ^ n ≤ nx d l k → ch n (wt n (mk d l k)) ≤ rk n (mk d l k) + 1) := by
  have hbig : ∃ N, n ≤ N ∧ l + k + 1 ≤ N ∧ nx d l k < 2 ^ N := by
    refine ⟨n + (l + k + 1) + nx d l k, by omega, by omega, Nat.lt_of_lt_of_le Nat.lt_two_pow_self (Nat.pow_le_pow_right (by omega) (by omega))⟩
  obtain ⟨N, hN, hN2, hlt⟩ := hbig
  obtain ⟨t, ht⟩ : ∃ t, N = l + k + 1 + t := ⟨N - (l + k + 1), by omega⟩
  have hs := nx_spec d l k t hk
  rw [← ht] at hs
  have hmw := wt_more hm N hN
  have hmr := rk_more hm N hN
  constructor
  · intro h
    have h1 := wt_more h N hN
    have h2 := rk_more h N hN
    have h3 := rk_lt (nx d l k) n
    have e1 : wt n (mk d l k) = wt n (nx d l k) := by omega
    have e2 : rk n (mk d l k) + 1 = rk n (nx d l k) := by omega
    rw [e1, e2]
    exact ⟨h3, unr_rk n _ h⟩
  · intro h
    by_cases hc : ch n (wt n (mk d l k)) ≤ rk n (mk d l k) + 1
    · exact hc
    · obtain ⟨u1, u2, u3⟩ := unr_spec n (wt n (mk d l k)) (rk n (mk d l k) + 1) (by omega)
      have v1 := wt_more u1 N hN
      have v2 := rk_more u1 N hN
      have hu : unr n (wt n (mk d l k)) (rk n (mk d l k) + 1) < 2 ^ N := Nat.lt_of_lt_of_le u1 (Nat.pow_le_pow_right (by omega) hN)
      have := (rk_order hu hlt (by omega)).2.1 (by omega)
      omega
/-- The first ones. -/
theorem unr_first {n s : Nat} (h : s ≤ n) : unr n s 0 = 2 ^ s - 1 := by
  have hlt : 2 ^ s - 1 < 2 ^ s := by have := Nat.two_pow_pos s; omega
  have hn : 2 ^ s - 1 < 2 ^ n := Nat.lt_of_lt_of_le hlt (Nat.pow_le_pow_right (by omega) h)
  have b := blk (x := 2 ^ s - 1) (l := 0) (fun i hi => by omega) s (fun i h1 h2 => by rw [Nat.testBit_two_pow_sub_one]; simp; omega)
  rw [Nat.zero_add, ch_self] at b
  have w := wt_more hlt n h
  have r := rk_more hlt n h
  have := unr_rk n (2 ^ s - 1) hn
  rw [w, r, b.1, show rk s (2 ^ s - 1) = 0 by omega] at this
  exact this
end Go.Proofs.MaskMath
