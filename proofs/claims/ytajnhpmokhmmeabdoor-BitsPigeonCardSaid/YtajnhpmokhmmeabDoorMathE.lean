/-
  DERIVED. Plain mathematics: a text is its bits; Join undoes Split; the distance is the sum over the chunks.
-/
import Derived.Test.YtajnhpmokhmmeabDoorMathD
namespace Go.Proofs.YtajnhpmokhmmeabDoor
open Go.Proofs.BitMath
theorem sumTo_zero (f : Nat → Nat) (n : Nat) (h : ∀ i, i < n → f i = 0) : sumTo f n = 0 := by
  induction n with
  | zero => rfl
  | succ n ih => simp only [sumTo]; rw [ih (fun i hi => h i (by omega)), h n (by omega)]
theorem sumTo_add (f : Nat → Nat) (a n : Nat) : sumTo f (a + n) = sumTo f a + sumTo (fun t => f (a + t)) n := by
  induction n with
  | zero => rfl
  | succ n ih => rw [← Nat.add_assoc]; simp only [sumTo]; rw [ih]; omega
theorem sumTo_cons (f : Nat → Nat) (n : Nat) : sumTo f (n + 1) = f 0 + sumTo (fun t => f (t + 1)) n := by
  induction n with
  | zero => simp [sumTo]
  | succ n ih => rw [sumTo, ih]; simp only [sumTo]; omega
theorem sumTo_rev (n : Nat) : ∀ f : Nat → Nat, sumTo (fun i => f (n - 1 - i)) n = sumTo f n := by
  induction n with
  | zero => intro f; rfl
  | succ n ih =>
    intro f
    rw [sumTo_cons]
    have e : sumTo (fun t => f (n + 1 - 1 - (t + 1))) n = sumTo (fun i => f (n - 1 - i)) n := sumTo_congr _ _ _ (fun i hi => by congr 1; omega)
    rw [e, ih f]; simp only [sumTo, Nat.add_sub_cancel, Nat.sub_zero]; omega
/-- Two texts of one length with the same bits. -/
theorem ext_bits (a b : List UInt8) (h : a.length = b.length) (hb : ∀ i, i < 8 * a.length → bitL a i = bitL b i) : a = b := by
  refine xorL_zero a b h ?_
  have hl := xorL_length a b h
  have := sumTo_bits (xorL a b) a.length (by omega)
  rw [List.take_of_length_le (by omega)] at this
  rw [← this]
  refine sumTo_zero _ _ (fun i hi => ?_)
  rw [bitL_xor a b h i hi, hb i hi]; omega
/-- Every bit lies in a chunk. -/
theorem in_chunk (x m : Nat) (k : Nat) (i : Nat) (hi : i < frC x m k) : ∃ j t, j < k ∧ t < btC x m j ∧ i = frC x m j + t := by
  induction k with
  | zero => rw [frC_zero] at hi; omega
  | succ k ih =>
    rw [frC_succ] at hi
    by_cases e : i < frC x m k
    · obtain ⟨j, t, h1, h2, h3⟩ := ih e; exact ⟨j, t, by omega, h2, h3⟩
    · exact ⟨k, i - frC x m k, by omega, by omega, by omega⟩
/-- A bit of the number that n bits make. -/
theorem bt_numR (l : List UInt8) (fr n : Nat) : ∀ t, t < n → bt (numR l fr n) (n - 1 - t) = bitL l (fr + t) := by
  induction n with
  | zero => intro t ht; omega
  | succ n ih =>
    intro t ht
    rw [numR_succ]
    by_cases e : t = n
    · subst e
      have := bitL_le l (fr + t)
      unfold bt; rw [show t + 1 - 1 - t = 0 by omega]; simp; omega
    · have h := ih t (by omega)
      have hb := bitL_le l (fr + n)
      rw [← h]
      unfold bt
      rw [show n + 1 - 1 - t = (n - 1 - t) + 1 by omega, Nat.pow_succ, Nat.mul_comm (2 ^ (n - 1 - t)) 2, ← Nat.div_div_eq_div_mul]
      rw [show (2 * numR l fr n + bitL l (fr + n)) / 2 = numR l fr n by omega]
/-- Join of what Split gives. -/
theorem join_split {x m : Nat} (h : OkC x m) (l : List UInt8) (hl : l.length = x / 8) : joinL x m (fun j => (valC l x m j : Int)) (List.range m) = l := by
  have hx8 : 8 * (x / 8) = x := by have := h.2.2.1; omega
  refine ext_bits _ _ (by rw [joinL_length, hl]) (fun i hi => ?_)
  rw [joinL_length, hx8] at hi
  obtain ⟨j, t, hj, ht, rfl⟩ := in_chunk x m m i (by rw [frC_end x m h.pos]; exact hi)
  rw [(bitL_join h _ m (Nat.le_refl _)).2 j hj t ht]
  show bt (valC l x m j) _ = _
  exact bt_numR l _ _ t ht
theorem valC_valid {x m : Nat} (h : OkC x m) (l : List UInt8) (j : Nat) : valid x m (fun j => (valC l x m j : Int)) j := by
  have := (valC_lt (l := l) h j).1
  unfold valid
  refine ⟨Int.natCast_nonneg _, ?_⟩
  have e : ((2 ^ btC x m j : Nat) : Int) = (2 : Int) ^ btC x m j := by simp
  show ((valC l x m j : Nat) : Int) < 2 ^ btC x m j
  omega
/-- How many bits of a number of 32 bits are one. -/
def pop32 (v : Nat) : Nat := sumTo (bt v) 32
theorem bt_high (v n i : Nat) (h : v < 2 ^ n) (hi : n ≤ i) : bt v i = 0 := by
  have : v < 2 ^ i := Nat.lt_of_lt_of_le h (Nat.pow_le_pow_right (by omega) hi)
  unfold bt; rw [Nat.div_eq_of_lt this]
theorem pop_cut (v n : Nat) (h : v < 2 ^ n) (hn : n ≤ 32) : pop32 v = sumTo (bt v) n := by
  unfold pop32
  rw [show 32 = n + (32 - n) by omega, sumTo_add, sumTo_zero _ _ (fun i _ => bt_high v n (n + i) h (by omega))]; rfl
/-- Two chunks' values are unlike in as many bits as the texts are there. -/
theorem far_chunk {x m : Nat} (h : OkC x m) (a b : List UInt8) (ha : a.length = x / 8) (hb : b.length = x / 8) (j : Nat) (hj : j < m) :
    pop32 (valC a x m j ^^^ valC b x m j) = sumTo (fun t => bitL (xorL a b) (frC x m j + t)) (btC x m j) := by
  have hx8 : 8 * (x / 8) = x := by have := h.2.2.1; omega
  have h1 := (valC_lt (l := a) h j).1
  have h2 := (valC_lt (l := b) h j).1
  have hin := frC_in x m j hj
  rw [pop_cut _ (btC x m j) (Nat.xor_lt_two_pow h1 h2) (btC_bd h j).2, ← sumTo_rev (btC x m j) (bt (valC a x m j ^^^ valC b x m j))]
  refine sumTo_congr _ _ _ (fun t ht => ?_)
  rw [bt_xor, bitL_xor a b (by omega) _ (by omega)]
  unfold valC
  rw [bt_numR a _ _ t ht, bt_numR b _ _ t ht]
/-- The sum over the first k chunks. -/
def farTo (a b : List UInt8) (x m k : Nat) : Nat := sumTo (bitL (xorL a b)) (frC x m k)
theorem farTo_zero (a b : List UInt8) (x m : Nat) : farTo a b x m 0 = 0 := by unfold farTo; rw [frC_zero]; rfl
theorem farTo_succ {x m : Nat} (h : OkC x m) (a b : List UInt8) (ha : a.length = x / 8) (hb : b.length = x / 8) (j : Nat) (hj : j < m) :
    farTo a b x m (j + 1) = farTo a b x m j + pop32 (valC a x m j ^^^ valC b x m j) := by
  unfold farTo; rw [frC_succ, sumTo_add, far_chunk h a b ha hb j hj]
theorem farTo_end {x m : Nat} (h : OkC x m) (a b : List UInt8) (ha : a.length = x / 8) (hb : b.length = x / 8) : farTo a b x m m = wt (xorL a b) := by
  have hx8 : 8 * (x / 8) = x := by have := h.2.2.1; omega
  have hl := xorL_length a b (by omega)
  have := sumTo_bits (xorL a b) (x / 8) (by omega)
  unfold farTo; rw [frC_end x m h.pos]
  rw [hx8, List.take_of_length_le (by omega)] at this; exact this
theorem farTo_le (a b : List UInt8) (x m k : Nat) : farTo a b x m k ≤ frC x m k := sumTo_le _ (fun i => bitL_le _ i) _
theorem pop32_le (v : Nat) : pop32 v ≤ 32 := sumTo_le _ (fun i => bt_le _ i) _
end Go.Proofs.YtajnhpmokhmmeabDoor
