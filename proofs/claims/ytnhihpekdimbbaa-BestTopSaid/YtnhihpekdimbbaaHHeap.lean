/-
  DERIVED. Heaps as lists: what up and down keep.
-/
import Derived.Test.YtnhihpekdimbbaaHOps
set_option linter.unusedVariables false
set_option linter.unusedSimpArgs false
namespace Go.Proofs.Ytnhihpekdimbbaa
open Go.RowKit
/-- An order as the heap asks for it. -/
structure Ord {α : Type} (lt : α → α → Bool) : Prop where
  asym : ∀ a b, lt a b = true → lt b a = false
  ge : ∀ a b c, lt b a = false → lt c b = false → lt c a = false
section
variable {α : Type} {lt : α → α → Bool}
theorem Ord.irr (O : Ord lt) (a : α) : lt a a = false := by
  cases h : lt a a with
  | false => rfl
  | true => have := O.asym a a h; rw [h] at this; exact this
theorem at_irr (O : Ord lt) (xs : List α) (a : Nat) : ltAt lt xs a a = false := by
  unfold ltAt; split
  · rename_i x y h1 h2; rw [h1] at h2; cases h2; exact O.irr _
  · rfl
theorem at_asym (O : Ord lt) {xs : List α} {a b : Nat} (h : ltAt lt xs a b = true) : ltAt lt xs b a = false := by
  unfold ltAt at h ⊢
  split at h
  · rename_i x y h1 h2; rw [h1, h2]; exact O.asym _ _ h
  · simp at h
theorem at_ge (O : Ord lt) {xs : List α} {a b c : Nat} (hb : b < xs.length) (h1 : ltAt lt xs b a = false) (h2 : ltAt lt xs c b = false) : ltAt lt xs c a = false := by
  unfold ltAt at h1 h2 ⊢
  rw [List.getElem?_eq_getElem hb] at h1 h2
  cases hc : xs[c]? with
  | none => rfl
  | some z =>
    cases ha : xs[a]? with
    | none => rfl
    | some x => rw [ha] at h1; rw [hc] at h2; exact O.ge _ _ _ h1 h2
/-- Where a place goes. -/
def sw (i j k : Nat) : Nat := if k = j then i else if k = i then j else k
theorem swap_get? (xs : List α) (i j : Nat) (hi : i < xs.length) (hj : j < xs.length) (k : Nat) : (swapL xs i j)[k]? = xs[sw i j k]? := by
  rw [swapL_eq xs i j hi hj]
  unfold sw
  by_cases h1 : k = j
  · subst h1
    rw [if_pos rfl, List.getElem?_set_self (by simpa using hj), List.getElem?_eq_getElem hi]
  · rw [if_neg h1, List.getElem?_set_ne (fun h => h1 h.symm)]
    by_cases h2 : k = i
    · subst h2
      rw [if_pos rfl, List.getElem?_set_self hi, List.getElem?_eq_getElem hj]
    · rw [if_neg h2, List.getElem?_set_ne (fun h => h2 h.symm)]
theorem swap_at (xs : List α) (i j : Nat) (hi : i < xs.length) (hj : j < xs.length) (a b : Nat) : ltAt lt (swapL xs i j) a b = ltAt lt xs (sw i j a) (sw i j b) := by
  unfold ltAt; rw [swap_get? xs i j hi hj, swap_get? xs i j hi hj]
theorem swap_perm (xs : List α) (i j : Nat) (hi : i < xs.length) (hj : j < xs.length) : (swapL xs i j).Perm xs := by
  rw [swapL_eq xs i j hi hj]
  exact List.set_set_perm hi hj
theorem sw_j (i j : Nat) : sw i j j = i := by unfold sw; rw [if_pos rfl]
theorem sw_i (i j : Nat) : sw i j i = j := by unfold sw; split <;> simp_all
theorem sw_o {i j k : Nat} (h1 : k ≠ j) (h2 : k ≠ i) : sw i j k = k := by unfold sw; rw [if_neg h1, if_neg h2]
/-- No one is below the one above it. -/
def HeapN (lt : α → α → Bool) (xs : List α) (n : Nat) : Prop := ∀ j, 0 < j → j < n → ltAt lt xs j ((j - 1) / 2) = false
/-- .. but perhaps the one at place k. -/
structure UpTo (lt : α → α → Bool) (xs : List α) (k : Nat) : Prop where
  out : ∀ j, 0 < j → j < xs.length → j ≠ k → ltAt lt xs j ((j - 1) / 2) = false
  far : ∀ j, 0 < j → j < xs.length → 0 < k → (j - 1) / 2 = k → ltAt lt xs j ((k - 1) / 2) = false
theorem up_perm (lt : α → α → Bool) (xs : List α) (j : Nat) (hj : j < xs.length) : (upL lt xs j).Perm xs := by
  induction j using Nat.strongRecOn generalizing xs with
  | ind j ih =>
    rw [upL_eq]
    split
    · exact .refl _
    · split
      · exact (ih _ (by omega) _ (by rw [swapL_len]; omega)).trans (swap_perm xs _ _ (by omega) hj)
      · exact .refl _
theorem up_heap (O : Ord lt) (xs : List α) (j : Nat) (hj : j < xs.length) (h : UpTo lt xs j) : HeapN lt (upL lt xs j) xs.length := by
  induction j using Nat.strongRecOn generalizing xs with
  | ind k ih =>
    rw [upL_eq]
    by_cases h0 : k = 0
    · rw [dif_pos h0]
      exact fun j hp hj => h.out j hp hj (by omega)
    · rw [dif_neg h0]
      obtain ⟨i, hi⟩ : ∃ i, i = (k - 1) / 2 := ⟨_, rfl⟩
      rw [← hi]
      have hil : i < xs.length := by omega
      by_cases hl : ltAt lt xs k i = true
      · rw [if_pos hl]
        have hlen := swapL_len xs i k
        rw [← hlen]
        refine ih i (by omega) _ (by rw [hlen]; exact hil) ⟨fun j hp0 hj' hne => ?_, fun j hp0 hj' hi0 he => ?_⟩
        · rw [hlen] at hj'
          rw [swap_at xs i k hil hj]
          by_cases e1 : j = k
          · subst e1
            rw [sw_j, ← hi, sw_i]
            exact at_asym O hl
          · rw [sw_o e1 hne]
            by_cases e2 : (j - 1) / 2 = k
            · rw [e2, sw_j, hi]
              exact h.far j hp0 hj' (by omega) e2
            · by_cases e3 : (j - 1) / 2 = i
              · rw [e3, sw_i]
                have := h.out j hp0 hj' e1
                rw [e3] at this
                exact at_ge O hil (at_asym O hl) this
              · rw [sw_o e2 e3]
                exact h.out j hp0 hj' e1
        · rw [hlen] at hj'
          rw [swap_at xs i k hil hj, sw_o (k := (i - 1) / 2) (by omega) (by omega)]
          have hpi := h.out i hi0 hil (by omega)
          by_cases e1 : j = k
          · rw [e1, sw_j]; exact hpi
          · rw [sw_o e1 (by omega)]
            have := h.out j hp0 hj' e1
            rw [he] at this
            exact at_ge O hil hpi this
      · rw [if_neg hl]
        intro j hp0 hj'
        by_cases e1 : j = k
        · subst e1
          rw [← hi]; simpa using hl
        · exact h.out j hp0 hj' e1
/-- A heap of which the first n count; below place i it may be broken. -/
structure DownTo (lt : α → α → Bool) (xs : List α) (i n : Nat) : Prop where
  out : ∀ j, 0 < j → j < n → (j - 1) / 2 ≠ i → ltAt lt xs j ((j - 1) / 2) = false
  far : ∀ j, 0 < j → j < n → 0 < i → (j - 1) / 2 = i → ltAt lt xs j ((i - 1) / 2) = false
theorem kid_two (lt : α → α → Bool) (xs : List α) (i n : Nat) : (kid lt xs i n - 1) / 2 = i := by unfold kid; split <;> omega
theorem kid_min (O : Ord lt) (xs : List α) (i n : Nat) (j : Nat) (hj : j < n) (hp : 0 < j) (he : (j - 1) / 2 = i) : ltAt lt xs j (kid lt xs i n) = false := by
  have hj2 : j = 2 * i + 1 ∨ j = 2 * i + 2 := by omega
  unfold kid
  split
  · rename_i h
    rcases hj2 with rfl | rfl
    · exact at_asym O h.2
    · exact at_irr O _ _
  · rename_i h
    rcases hj2 with rfl | rfl
    · exact at_irr O _ _
    · cases hl : ltAt lt xs (2 * i + 2) (2 * i + 1) with
      | false => rfl
      | true => exact absurd ⟨hj, hl⟩ h
theorem down_perm (lt : α → α → Bool) (n : Nat) : ∀ (k : Nat) (xs : List α) (i : Nat), n - i ≤ k → n ≤ xs.length → (downL lt xs i n).Perm xs ∧ ∀ m, n ≤ m → (downL lt xs i n)[m]? = xs[m]?
  | 0, xs, i, h, hn => by rw [downL_eq, dif_neg (by omega)]; exact ⟨.refl _, fun _ _ => rfl⟩
  | k + 1, xs, i, h, hn => by
    rw [downL_eq]
    by_cases hj : 2 * i + 1 < n
    · rw [dif_pos hj]
      have h1 := kid_gt lt xs i n
      have h2 := kid_lt lt xs i n hj
      by_cases hl : ltAt lt xs (kid lt xs i n) i = true
      · rw [if_pos hl]
        obtain ⟨p1, p2⟩ := down_perm lt n k (swapL xs i (kid lt xs i n)) (kid lt xs i n) (by omega) (by rw [swapL_len]; exact hn)
        refine ⟨p1.trans (swap_perm xs _ _ (by omega) (by omega)), fun m hm => ?_⟩
        rw [p2 m hm, swap_get? xs _ _ (by omega) (by omega), sw_o (by omega) (by omega)]
      · rw [if_neg hl]; exact ⟨.refl _, fun _ _ => rfl⟩
    · rw [dif_neg hj]; exact ⟨.refl _, fun _ _ => rfl⟩
theorem down_heap (O : Ord lt) (n : Nat) : ∀ (k : Nat) (xs : List α) (i : Nat), n - i ≤ k → n ≤ xs.length → DownTo lt xs i n → HeapN lt (downL lt xs i n) n
  | 0, xs, i, h, hn, hd => by
    rw [downL_eq, dif_neg (by omega)]
    exact fun j hp hjn => hd.out j hp hjn (by omega)
  | k + 1, xs, i, h, hn, hd => by
    rw [downL_eq]
    by_cases hj : 2 * i + 1 < n
    · rw [dif_pos hj]
      have h1 := kid_gt lt xs i n
      have h2 := kid_lt lt xs i n hj
      have hmin := kid_min O xs i n
      have hkp := kid_two lt xs i n
      obtain ⟨c, hc⟩ : ∃ c, c = kid lt xs i n := ⟨_, rfl⟩
      rw [← hc] at h1 h2 hkp ⊢
      rw [← hc] at hmin
      have hil : i < xs.length := by omega
      have hcl : c < xs.length := by omega
      by_cases hl : ltAt lt xs c i = true
      · rw [if_pos hl]
        refine down_heap O n k _ c (by omega) (by rw [swapL_len]; exact hn) ⟨fun j hp0 hjn hne => ?_, fun j hp0 hjn hc0 he => ?_⟩
        · rw [swap_at xs i c hil hcl]
          by_cases e1 : j = c
          · subst e1
            rw [sw_j, hkp, sw_i]
            exact at_asym O hl
          · by_cases e2 : j = i
            · subst e2
              rw [sw_i, sw_o hne (by omega)]
              exact hd.far c (by omega) h2 hp0 hkp
            · rw [sw_o e1 e2]
              by_cases e3 : (j - 1) / 2 = i
              · rw [e3, sw_i]
                exact hmin j hjn hp0 e3
              · rw [sw_o hne e3]
                exact hd.out j hp0 hjn e3
        · rw [swap_at xs i c hil hcl, sw_o (k := j) (by omega) (by omega), hkp, sw_i]
          have := hd.out j hp0 hjn (by omega)
          rw [he] at this
          exact this
      · rw [if_neg hl]
        intro j hp0 hjn
        by_cases e3 : (j - 1) / 2 = i
        · have := hmin j hjn hp0 e3
          rw [e3]
          exact at_ge O hcl (by simpa using hl) this
        · exact hd.out j hp0 hjn e3
    · rw [dif_neg hj]
      exact fun j hp hjn => hd.out j hp hjn (by omega)
/-- The first of a heap is the least. -/
theorem heap_least (O : Ord lt) {xs : List α} (h : HeapN lt xs xs.length) : ∀ j, j < xs.length → ltAt lt xs j 0 = false := by
  intro j
  induction j using Nat.strongRecOn with
  | ind j ih =>
    intro hj
    by_cases h0 : j = 0
    · subst h0; exact at_irr O _ _
    · exact at_ge O (by omega) (ih ((j - 1) / 2) (by omega) (by omega)) (h j (by omega) hj)
end
end Go.Proofs.Ytnhihpekdimbbaa
