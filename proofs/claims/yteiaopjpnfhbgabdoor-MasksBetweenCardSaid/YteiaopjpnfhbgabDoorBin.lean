/-
  DERIVED. Numbers by their ones: counts, places, the mask of a place, the next mask. No Go.
-/
namespace Go.Proofs.MaskMath
/-- n over k. -/
def ch : Nat → Nat → Nat
  | _, 0 => 1
  | 0, _ + 1 => 0
  | n + 1, k + 1 => ch n k + ch n (k + 1)
theorem ch_zero (n : Nat) : ch n 0 = 1 := by cases n <;> rfl
theorem ch_succ (n k : Nat) : ch (n + 1) (k + 1) = ch n k + ch n (k + 1) := rfl
theorem ch_big : ∀ n k, n < k → ch n k = 0
  | 0, k + 1, _ => rfl
  | n + 1, k + 1, h => by rw [ch_succ, ch_big n k (by omega), ch_big n (k + 1) (by omega)]
theorem ch_pos : ∀ n k, k ≤ n → 0 < ch n k
  | n, 0, _ => by rw [ch_zero]; omega
  | n + 1, k + 1, h => by have := ch_pos n k (by omega); rw [ch_succ]; omega
theorem ch_mono (n k : Nat) : ch n k ≤ ch (n + 1) k := by
  cases k with
  | zero => rw [ch_zero, ch_zero]; omega
  | succ k => rw [ch_succ]; omega
theorem ch_two : ∀ n k, 2 ≤ n → ch n k + ch n (k + 1) < 2 ^ n
  | 2, 0, _ => by decide
  | 2, 1, _ => by decide
  | 2, k + 2, _ => by have h1 := ch_big 2 (k + 2 + 1) (by omega); by_cases h : k = 0
                      · subst h; decide
                      · rw [h1, ch_big 2 (k + 2) (by omega)]; decide
  | n + 3, 0, _ => by
    have h := ch_two (n + 2) 0 (by omega)
    rw [ch_zero] at h
    rw [ch_zero, ch_succ, ch_zero, Nat.pow_succ 2 (n + 2)]
    have : 0 < 2 ^ (n + 2) := Nat.two_pow_pos _
    omega
  | n + 3, k + 1, _ => by
    have h1 := ch_two (n + 2) k (by omega)
    have h2 := ch_two (n + 2) (k + 1) (by omega)
    rw [ch_succ (n + 2) k, ch_succ (n + 2) (k + 1), Nat.pow_succ 2 (n + 2)]
    omega
theorem ch_up (k : Nat) : ∀ n N, n ≤ N → ch n k ≤ ch N k
  | n, 0, h => by have e : n = 0 := by omega
                  subst e; exact Nat.le_refl _
  | n, N + 1, h => by
    by_cases e : n = N + 1
    · subst e; exact Nat.le_refl _
    · exact Nat.le_trans (ch_up k n N (by omega)) (ch_mono N k)
theorem ch_lt (n k : Nat) (h : n ≤ 64) : ch n k < 9223372036854775808 := by
  have h1 : ch n k ≤ ch 64 k := ch_up k n 64 h
  have h2 : ch 64 k < 9223372036854775808 := by
    cases k with
    | zero => rw [ch_zero]; omega
    | succ k => have := ch_two 63 k (by omega); rw [ch_succ 63 k]; simpa using this
  omega
/-- How many of the lowest n bits are one. -/
def wt : Nat → Nat → Nat
  | 0, _ => 0
  | n + 1, m => wt n m + (m.testBit n).toNat
/-- The place among those of its weight, by its lowest n bits. -/
def rk : Nat → Nat → Nat
  | 0, _ => 0
  | n + 1, m => rk n m + if m.testBit n = true then ch n (wt n m + 1) else 0
/-- The mask at a place. -/
def unr : Nat → Nat → Nat → Nat
  | 0, _, _ => 0
  | n + 1, s, r => if ch n s ≤ r then 2 ^ n + unr n (s - 1) (r - ch n s) else unr n s r
theorem wt_yes {n m : Nat} (h : m.testBit n = true) : wt (n + 1) m = wt n m + 1 := by simp [wt, h]
theorem wt_no {n m : Nat} (h : m.testBit n = false) : wt (n + 1) m = wt n m := by simp [wt, h]
theorem rk_yes {n m : Nat} (h : m.testBit n = true) : rk (n + 1) m = rk n m + ch n (wt n m + 1) := by simp [rk, h]
theorem rk_no {n m : Nat} (h : m.testBit n = false) : rk (n + 1) m = rk n m := by simp [rk, h]
theorem wt_congr {a b : Nat} : ∀ n, (∀ i, i < n → a.testBit i = b.testBit i) → wt n a = wt n b
  | 0, _ => rfl
  | n + 1, h => by rw [wt, wt, wt_congr n (fun i hi => h i (by omega)), h n (by omega)]
theorem rk_congr {a b : Nat} : ∀ n, (∀ i, i < n → a.testBit i = b.testBit i) → rk n a = rk n b
  | 0, _ => rfl
  | n + 1, h => by rw [rk, rk, rk_congr n (fun i hi => h i (by omega)), h n (by omega), wt_congr n (fun i hi => h i (by omega))]
theorem wt_le (m : Nat) : ∀ n, wt n m ≤ n
  | 0 => Nat.le_refl _
  | n + 1 => by have := wt_le m n; cases h : m.testBit n <;> simp [wt, h] <;> omega
theorem rk_lt (m : Nat) : ∀ n, rk n m < ch n (wt n m)
  | 0 => by show 0 < 1; omega
  | n + 1 => by
    have ih := rk_lt m n
    cases h : m.testBit n
    · rw [rk_no h, wt_no h]; exact Nat.lt_of_lt_of_le ih (ch_mono _ _)
    · rw [rk_yes h, wt_yes h, ch_succ]; omega
theorem bit_out {m n i : Nat} (h : m < 2 ^ n) (hi : n ≤ i) : m.testBit i = false := Nat.testBit_lt_two_pow (Nat.lt_of_lt_of_le h (Nat.pow_le_pow_right (by omega) hi))
theorem wt_more {m n : Nat} (h : m < 2 ^ n) : ∀ N, n ≤ N → wt N m = wt n m
  | 0, hn => by have e : n = 0 := by omega
                subst e; rfl
  | N + 1, hn => by
    by_cases e : n = N + 1
    · subst e; rfl
    · rw [wt_no (bit_out h (by omega)), wt_more h N (by omega)]
theorem rk_more {m n : Nat} (h : m < 2 ^ n) : ∀ N, n ≤ N → rk N m = rk n m
  | 0, hn => by have e : n = 0 := by omega
                subst e; rfl
  | N + 1, hn => by
    by_cases e : n = N + 1
    · subst e; rfl
    · rw [rk_no (bit_out h (by omega)), rk_more h N (by omega)]
theorem add_bit {n x : Nat} (h : x < 2 ^ n) : (2 ^ n + x).testBit n = true := by rw [Nat.testBit_two_pow_add_eq, bit_out h (Nat.le_refl _)]; rfl
theorem add_low {n x i : Nat} (hi : i < n) : (2 ^ n + x).testBit i = x.testBit i := Nat.testBit_two_pow_add_gt hi x
theorem unr_spec : ∀ n s r, r < ch n s → unr n s r < 2 ^ n ∧ wt n (unr n s r) = s ∧ rk n (unr n s r) = r
  | 0, 0, r, h => by
    have : r < 1 := h
    exact ⟨Nat.zero_lt_one, rfl, by show 0 = r; omega⟩
  | 0, s + 1, r, h => absurd h (by simp [ch])
  | n + 1, s, r, h => by
    rw [unr]
    by_cases hc : ch n s ≤ r
    · rw [if_pos hc]
      cases s with
      | zero => rw [ch_zero] at h hc; omega
      | succ s =>
        rw [ch_succ] at h
        obtain ⟨h1, h2, h3⟩ := unr_spec n s (r - ch n (s + 1)) (by omega)
        have e : s + 1 - 1 = s := rfl
        rw [e]
        refine ⟨by rw [Nat.pow_succ]; omega, ?_, ?_⟩
        · rw [wt_yes (add_bit h1), wt_congr n (fun i hi => add_low hi), h2]
        · rw [rk_yes (add_bit h1), wt_congr n (fun i hi => add_low hi), rk_congr n (fun i hi => add_low hi), h2, h3]; omega
    · rw [if_neg hc]
      obtain ⟨h1, h2, h3⟩ := unr_spec n s r (by omega)
      refine ⟨by rw [Nat.pow_succ]; omega, ?_, ?_⟩
      · rw [wt_no (bit_out h1 (Nat.le_refl _)), h2]
      · rw [rk_no (bit_out h1 (Nat.le_refl _)), h3]
theorem split_top {n m : Nat} (h : m < 2 ^ (n + 1)) : (m.testBit n = true ∧ 2 ^ n ≤ m ∧ m - 2 ^ n < 2 ^ n) ∨ (m.testBit n = false ∧ m < 2 ^ n) := by
  rw [Nat.pow_succ] at h
  by_cases hc : m < 2 ^ n
  · exact .inr ⟨bit_out hc (Nat.le_refl _), hc⟩
  · refine .inl ⟨?_, by omega, by omega⟩
    have := add_bit (n := n) (x := m - 2 ^ n) (by omega)
    rwa [show 2 ^ n + (m - 2 ^ n) = m by omega] at this
theorem low_bits {n m i : Nat} (h : 2 ^ n ≤ m) (hi : i < n) : m.testBit i = (m - 2 ^ n).testBit i := by
  have := add_low (n := n) (x := m - 2 ^ n) hi
  rwa [show 2 ^ n + (m - 2 ^ n) = m by omega] at this
theorem unr_rk : ∀ n m, m < 2 ^ n → unr n (wt n m) (rk n m) = m
  | 0, m, h => by have : m < 1 := h
                  show 0 = m; omega
  | n + 1, m, h => by
    rcases split_top h with ⟨hb, hm, hl⟩ | ⟨hb, hm⟩
    · rw [wt_yes hb, rk_yes hb, unr, if_pos (by omega)]
      have e1 : wt n m = wt n (m - 2 ^ n) := wt_congr n (fun i hi => low_bits hm hi)
      have e2 : rk n m = rk n (m - 2 ^ n) := rk_congr n (fun i hi => low_bits hm hi)
      have ih := unr_rk n (m - 2 ^ n) hl
      rw [show wt n m + 1 - 1 = wt n m by omega, show rk n m + ch n (wt n m + 1) - ch n (wt n m + 1) = rk n m by omega, e1, e2, ih]
      omega
    · have h1 := rk_lt m n
      rw [wt_no hb, rk_no hb, unr, if_neg (by omega), unr_rk n m hm]
theorem rk_mono : ∀ n x y, x < y → y < 2 ^ n → wt n x = wt n y → rk n x < rk n y
  | 0, x, y, h, hy, _ => by have : y < 1 := hy
                            omega
  | n + 1, x, y, h, hy, hw => by
    rcases split_top hy with ⟨hb, hm, hl⟩ | ⟨hb, hm⟩
    · rcases split_top (Nat.lt_trans h hy) with ⟨kb, km, kl⟩ | ⟨kb, km⟩
      · rw [wt_yes hb, wt_yes kb] at hw
        have e1 : wt n x = wt n (x - 2 ^ n) := wt_congr n (fun i hi => low_bits km hi)
        have e2 : rk n x = rk n (x - 2 ^ n) := rk_congr n (fun i hi => low_bits km hi)
        have e3 : wt n y = wt n (y - 2 ^ n) := wt_congr n (fun i hi => low_bits hm hi)
        have e4 : rk n y = rk n (y - 2 ^ n) := rk_congr n (fun i hi => low_bits hm hi)
        have ih := rk_mono n (x - 2 ^ n) (y - 2 ^ n) (by omega) hl (by omega)
        rw [rk_yes hb, rk_yes kb, e2, e4, show wt n x = wt n y by omega]
        omega
      · have h1 := rk_lt x n
        rw [wt_yes hb, wt_no kb] at hw
        rw [rk_yes hb, rk_no kb, ← hw]
        omega
    · have hx : x < 2 ^ n := by omega
      have kb := bit_out hx (Nat.le_refl n)
      rw [wt_no hb, wt_no kb] at hw
      rw [rk_no hb, rk_no kb]
      exact rk_mono n x y h hm hw
/-- Two masks of one weight: their order is their places'. -/
theorem rk_order {n x y : Nat} (hx : x < 2 ^ n) (hy : y < 2 ^ n) (hw : wt n x = wt n y) : (rk n x < rk n y ↔ x < y) ∧ (rk n x = rk n y ↔ x = y) := by
  rcases Nat.lt_trichotomy x y with h | h | h
  · have := rk_mono n x y h hy hw; omega
  · subst h; simp
  · have := rk_mono n y x h hx hw.symm; omega
theorem ch_quarter : ∀ n k, ch (n + 10) k < 2 ^ (n + 8)
  | 0, k => by
    by_cases h : 10 < k
    · rw [ch_big (0 + 10) k (by omega)]; decide
    · have : ∀ k, k < 11 → ch 10 k < 2 ^ 8 := by decide
      exact this k (by omega)
  | n + 1, 0 => by rw [ch_zero]; exact Nat.one_lt_two_pow (by omega)
  | n + 1, k + 1 => by
    have h1 := ch_quarter n k
    have h2 := ch_quarter n (k + 1)
    rw [show n + 1 + 10 = n + 10 + 1 by omega, ch_succ, show n + 1 + 8 = n + 8 + 1 by omega, Nat.pow_succ]
    omega
theorem ch_lt62 (n k : Nat) (h : n ≤ 64) : ch n k < 4611686018427387904 :=
  Nat.lt_of_le_of_lt (ch_up k n 64 h) (ch_quarter 54 k)
/-- How many masks of n bits have fewer than k ones. -/
def sm (n : Nat) : Nat → Nat
  | 0 => 0
  | k + 1 => sm n k + ch n k
theorem sm_mono (n : Nat) : ∀ {a b : Nat}, a ≤ b → sm n a ≤ sm n b := by
  intro a b h
  induction h with
  | refl => exact Nat.le_refl _
  | step _ ih => exact Nat.le_trans ih (Nat.le_add_right _ _)
end Go.Proofs.MaskMath
