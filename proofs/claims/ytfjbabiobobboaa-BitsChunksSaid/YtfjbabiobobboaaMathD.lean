/-
  DERIVED. Plain mathematics: the bits of what Join makes; Split undoes it.
-/
import Derived.Test.YtfjbabiobobboaaJoin
namespace Go.Proofs.Ytfjbabiobobboaa
open Go.Proofs.BitMath
theorem getD_set (l : List UInt8) (k i : Nat) (x : UInt8) (hk : k < l.length) : (l.set k x).getD i 0 = if i = k then x else l.getD i 0 := by
  rw [List.getD_eq_getElem?_getD, List.getD_eq_getElem?_getD, List.getElem?_set]
  by_cases e : k = i
  · subst e; simp [hk]
  · simp [e, Ne.symm e]
theorem bt_or (a b i : Nat) : bt (a ||| b) i = if bt b i = 1 then 1 else bt a i := by
  rw [bt_testBit, bt_testBit, bt_testBit, Nat.testBit_or]
  cases a.testBit i <;> cases b.testBit i <;> rfl
theorem bt_two_pow (j i : Nat) : bt (2 ^ j) i = if j = i then 1 else 0 := by
  rw [bt_testBit, Nat.testBit_two_pow]; by_cases e : j = i <;> simp [e]
theorem bitL_setBit (l : List UInt8) (j i : Nat) (hj : j < 8 * l.length) : bitL (setBit l j) i = if i = j then 1 else bitL l i := by
  unfold bitL setBit
  have hk : j / 8 < l.length := by omega
  rw [getD_set l _ _ _ hk]
  by_cases e : i / 8 = j / 8
  · rw [if_pos e, UInt8.toNat_or, mk_toNat, bt_or, bt_two_pow, e]
    by_cases e2 : i = j
    · subst e2; simp
    · rw [if_neg e2, if_neg (show ¬ 7 - j % 8 = 7 - i % 8 by omega)]; simp
  · rw [if_neg e, if_neg (fun h => e (by rw [h]))]
theorem bitL_wr (v b fr : Nat) (l : List UInt8) (k : Nat) (hl : fr + k ≤ 8 * l.length) (i : Nat) :
    bitL (wrF v b l ((List.range k).map (fr + ·))).1 i = if fr ≤ i ∧ i < fr + k ∧ bt v (b - 1 - (i - fr)) = 1 then 1 else bitL l i := by
  induction k with
  | zero => rw [if_neg (by omega)]; rfl
  | succ k ih =>
    have ih := ih (by omega)
    rw [List.range_succ, List.map_append, List.map_cons, List.map_nil, wrF_snoc]
    simp only
    rw [wrF_count, List.length_map, List.length_range]
    by_cases hb : bt v (b - 1 - k) = 1
    · rw [if_pos hb, bitL_setBit _ _ _ (by rw [wrF_length]; omega), ih]
      by_cases e : i = fr + k
      · subst e; rw [if_pos rfl, if_pos ⟨by omega, by omega, by rw [show fr + k - fr = k from by omega]; exact hb⟩]
      · rw [if_neg e]
        by_cases c : fr ≤ i ∧ i < fr + k ∧ bt v (b - 1 - (i - fr)) = 1
        · rw [if_pos c, if_pos ⟨c.1, by omega, c.2.2⟩]
        · rw [if_neg c, if_neg (fun d => c ⟨d.1, by omega, d.2.2⟩)]
    · rw [if_neg hb, ih]
      by_cases c : fr ≤ i ∧ i < fr + k ∧ bt v (b - 1 - (i - fr)) = 1
      · rw [if_pos c, if_pos ⟨c.1, by omega, c.2.2⟩]
      · rw [if_neg c, if_neg (fun d => c ⟨d.1, by
          by_cases e : i = fr + k
          · subst e; rw [show fr + k - fr = k from by omega] at d; exact absurd d.2.2 hb
          · omega, d.2.2⟩)]
theorem bitL_zeros (n i : Nat) : bitL (List.replicate n 0) i = 0 := by
  unfold bitL
  have : (List.replicate n (0 : UInt8)).getD (i / 8) 0 = 0 := by
    rw [List.getD_eq_getElem?_getD, List.getElem?_replicate]; split <;> rfl
  rw [this]; simp [bt]
/-- What Join makes, bit by bit. -/
theorem bitL_join {x m : Nat} (h : OkC x m) (z : Nat → Int) (k : Nat) (hk : k ≤ m) :
    (∀ i, frC x m k ≤ i → bitL (joinL x m z (List.range k)) i = 0) ∧ ∀ j, j < k → ∀ t, t < btC x m j → bitL (joinL x m z (List.range k)) (frC x m j + t) = bt (z j).toNat (btC x m j - 1 - t) := by
  induction k with
  | zero => exact ⟨fun i _ => bitL_zeros _ _, fun j hj => by omega⟩
  | succ k ih =>
    obtain ⟨i1, i2⟩ := ih (by omega)
    have hin := frC_in x m k (by omega)
    have hx8 : 8 * (x / 8) = x := by have := h.2.2.1; omega
    have hw := fun i => bitL_wr (z k).toNat (btC x m k) (frC x m k) (joinL x m z (List.range k)) (btC x m k) (by rw [joinL_length, hx8]; exact hin) i
    rw [List.range_succ, joinL_snoc]
    refine ⟨fun i hi => ?_, fun j hj t ht => ?_⟩
    · rw [frC_succ] at hi
      rw [hw, if_neg (by omega)]; exact i1 i (by omega)
    · rw [hw]
      by_cases e : j = k
      · subst e
        rw [show frC x m j + t - frC x m j = t from by omega]
        by_cases hb : bt (z j).toNat (btC x m j - 1 - t) = 1
        · rw [if_pos ⟨by omega, by omega, hb⟩, hb]
        · rw [if_neg (fun d => hb d.2.2), i1 _ (by omega)]
          have := bt_le (z j).toNat (btC x m j - 1 - t); omega
      · have hm := frC_mono x m (j + 1) k (by omega)
        rw [frC_succ] at hm
        rw [if_neg (by omega)]; exact i2 j (by omega) t ht
/-- A number out of its bits. -/
theorem numR_bits (l : List UInt8) (fr n v : Nat) (h : ∀ t, t < n → bitL l (fr + t) = bt v (n - 1 - t)) (k : Nat) (hk : k ≤ n) : numR l fr k = v / 2 ^ (n - k) % 2 ^ k := by
  induction k with
  | zero => simp [numR, numN, Nat.mod_one]
  | succ k ih =>
    rw [numR_succ, ih (by omega), h k (by omega)]
    unfold bt
    have e1 : n - k = (n - (k + 1)) + 1 := by omega
    rw [show n - 1 - k = n - (k + 1) from by omega, e1, Nat.pow_succ, ← Nat.div_div_eq_div_mul]
    generalize v / 2 ^ (n - (k + 1)) = u
    rw [Nat.pow_succ, Nat.mul_comm (2 ^ k) 2, Nat.mod_mul]; omega
theorem numR_of (l : List UInt8) (fr n v : Nat) (h : ∀ t, t < n → bitL l (fr + t) = bt v (n - 1 - t)) (hv : v < 2 ^ n) : numR l fr n = v := by
  have := numR_bits l fr n v h n (Nat.le_refl _)
  rw [this]; simp [Nat.mod_eq_of_lt hv]
/-- Split of what Join made. -/
theorem split_join {x m : Nat} (h : OkC x m) (z : Nat → Int) (hz : ∀ j, j < m → valid x m z j) (j : Nat) (hj : j < m) : ((valC (joinL x m z (List.range m)) x m j : Nat) : Int) = z j := by
  have h1 := (bitL_join h z m (Nat.le_refl _)).2 j hj
  obtain ⟨v0, v1⟩ := hz j hj
  have hv : (z j).toNat < 2 ^ btC x m j := by
    have : ((z j).toNat : Int) < ((2 ^ btC x m j : Nat) : Int) := by rw [Int.toNat_of_nonneg v0]; simpa using v1
    omega
  have := numR_of _ (frC x m j) (btC x m j) (z j).toNat h1 hv
  unfold valC; rw [this]; exact Int.toNat_of_nonneg v0
end Go.Proofs.Ytfjbabiobobboaa
