/-
  DERIVED. sign: sums add up; what a code's bits are.
-/
import Derived.Test.YtmdmjjobhkpojaaDoorQBeg
import Derived.Test.YtmdmjjobhkpojaaDoorBit
set_option linter.unusedVariables false
set_option linter.unusedSimpArgs false
namespace Go.Proofs.YtmdmjjobhkpojaaDoor
open Go.RowKit Go.Shelf Go.Proofs.BitMath Go.Proofs.FloatMath
theorem cm_add (p q : Zp) (u : Int) : cm (addZ p q) u = addZ (cm p u) (cm q u) := by
  unfold cm addZ
  cases (u == 0) <;> cases (u == 1) <;> cases (u == 2) <;> simp <;> omega
def mulZ (k : Int) (p : Zp) : Zp := (k * p.1, k * p.2)
def trnZ (p : Zp) : Zp := (-p.2, p.1)
theorem cm_mul (k : Int) (p : Zp) (u : Int) : cm (mulZ k p) u = mulZ k (cm p u) := by
  unfold cm mulZ
  cases (u == 0) <;> cases (u == 1) <;> cases (u == 2) <;> simp [Int.mul_neg]
theorem cm_trn (p : Zp) (u : Int) : cm (trnZ p) u = trnZ (cm p u) := by
  unfold cm trnZ
  cases (u == 0) <;> cases (u == 1) <;> cases (u == 2) <;> simp
theorem mul_add (k : Int) (p q : Zp) : addZ (mulZ k p) (mulZ k q) = mulZ k (addZ p q) := by simp [addZ, mulZ, Int.mul_add]
theorem trn_add (p q : Zp) : addZ (trnZ p) (trnZ q) = trnZ (addZ p q) := by simp [addZ, trnZ]; omega
theorem getD_map (f : Zp → Zp) (h0 : f (0, 0) = (0, 0)) (v : List Zp) (k : Nat) : (v.map f).getD k (0, 0) = f (v.getD k (0, 0)) := by
  rw [List.getD_eq_getElem?_getD, List.getD_eq_getElem?_getD, List.getElem?_map]
  cases v[k]? <;> simp [h0]
theorem sumZ_map (f : Zp → Zp) (h0 : f (0, 0) = (0, 0)) (ha : ∀ p q, addZ (f p) (f q) = f (addZ p q)) (hc : ∀ p u, cm (f p) u = f (cm p u)) (sd : Int) (j : Nat) (v : List Zp) : ∀ k, sumZ sd j (v.map f) k = f (sumZ sd j v k)
  | 0 => by simp [sumZ, h0]
  | k + 1 => by simp only [sumZ]; rw [sumZ_map f h0 ha hc sd j v k, getD_map f h0, hc, ha]
theorem sumsL_map (f : Zp → Zp) (h0 : f (0, 0) = (0, 0)) (ha : ∀ p q, addZ (f p) (f q) = f (addZ p q)) (hc : ∀ p u, cm (f p) u = f (cm p u)) (wd : Nat) (sd : Int) (v : List Zp) : sumsL wd sd (v.map f) = (sumsL wd sd v).map f := by
  unfold sumsL
  rw [List.map_map]
  refine List.map_congr_left fun j _ => ?_
  rw [List.length_map, sumZ_map f h0 ha hc]; rfl
theorem sums_mul (wd : Nat) (sd : Int) (v : List Zp) (k : Int) : sumsL wd sd (v.map (mulZ k)) = (sumsL wd sd v).map (mulZ k) := sumsL_map _ (by simp [mulZ]) (mul_add k) (cm_mul k) wd sd v
theorem sums_trn (wd : Nat) (sd : Int) (v : List Zp) : sumsL wd sd (v.map trnZ) = (sumsL wd sd v).map trnZ := sumsL_map _ (by simp [trnZ]) trn_add cm_trn wd sd v
/-- Two vectors, part by part added. -/
def bothL (u v : List Zp) (n : Nat) : List Zp := (List.range n).map fun k => addZ (u.getD k (0, 0)) (v.getD k (0, 0))
theorem bothL_len (u v : List Zp) (n : Nat) : (bothL u v n).length = n := by simp [bothL]
theorem bothL_succ (u v : List Zp) (n : Nat) : bothL u v (n + 1) = bothL u v n ++ [addZ (u.getD n (0, 0)) (v.getD n (0, 0))] := by simp [bothL, List.range_succ]
theorem bothL_getD (u v : List Zp) (n k : Nat) (hk : k < n) : (bothL u v n).getD k (0, 0) = addZ (u.getD k (0, 0)) (v.getD k (0, 0)) := by
  rw [List.getD_eq_getElem?_getD, bothL, List.getElem?_map, List.getElem?_eq_getElem (by simpa using hk)]; simp
theorem addZ4 (a b c d : Zp) : addZ (addZ a b) (addZ c d) = addZ (addZ a c) (addZ b d) := by simp [addZ]; omega
theorem sumZ_both (sd : Int) (j : Nat) (u v : List Zp) (n : Nat) : ∀ k, k ≤ n → sumZ sd j (bothL u v n) k = addZ (sumZ sd j u k) (sumZ sd j v k)
  | 0, _ => by simp [sumZ, addZ]
  | k + 1, h => by
    simp only [sumZ]
    rw [sumZ_both sd j u v n k (by omega), bothL_getD u v n k (by omega), cm_add, addZ4]
theorem pos_of_mul {k a : Int} (hk : 0 < k) (h : 0 < k * a) : 0 < a := by
  rcases (show 0 < a ∨ a ≤ 0 by omega) with h' | h'
  · exact h'
  · have := Int.mul_nonneg (Int.le_of_lt hk) (show 0 ≤ -a by omega)
    rw [Int.mul_neg] at this
    omega
theorem sgN_pos (k : Int) (hk : 0 < k) (p : Zp) : sgN (mulZ k p) = sgN p := by
  have h1 : (0 < k * p.1) = (0 < p.1) := propext ⟨fun h => pos_of_mul hk h, fun h => Int.mul_pos hk h⟩
  have h2 : (0 < k * p.2) = (0 < p.2) := propext ⟨fun h => pos_of_mul hk h, fun h => Int.mul_pos hk h⟩
  simp only [sgN, mulZ, h1, h2]
theorem pbN_map (f : Zp → Zp) (h0 : f (0, 0) = (0, 0)) (hf : ∀ p, sgN (f p) = sgN p) (S : List Zp) (i : Nat) : ∀ t, pbN (S.map f) i t = pbN S i t
  | 0 => rfl
  | t + 1 => by simp only [pbN]; rw [pbN_map f h0 hf S i t, getD_map f h0, hf]
theorem codeL_map (f : Zp → Zp) (h0 : f (0, 0) = (0, 0)) (hf : ∀ p, sgN (f p) = sgN p) (S : List Zp) (n : Nat) : codeL (S.map f) n = codeL S n := by
  unfold codeL byT byN
  refine List.map_congr_left fun i _ => ?_
  rw [pbN_map f h0 hf]
def b01 (b : Bool) : Nat := if b then 1 else 0
theorem sgN_bits (p : Zp) : sgN p = 2 * b01 (decide (0 < p.1)) + b01 (decide (0 < p.2)) := by
  unfold sgN b01
  by_cases h1 : 0 < p.1 <;> by_cases h2 : 0 < p.2 <;> simp [h1, h2]
theorem b01_le (b : Bool) : b01 b ≤ 1 := by cases b <;> simp [b01]
/-- A code's bits are the signs of its sums. -/
theorem code_bit (S : List Zp) (n j : Nat) (hj : j < 4 * n) : bitL (codeL S n) (2 * j) = b01 (decide (0 < (S.getD j (0, 0)).1)) ∧ bitL (codeL S n) (2 * j + 1) = b01 (decide (0 < (S.getD j (0, 0)).2)) := by
  have hq : j / 4 < n := by omega
  have hlen : (codeL S n).length = n := byT_len _ _ _
  have hb : ∀ i, i / 8 = j / 4 → bitL (codeL S n) i = bt (pbN S (j / 4) 4) (7 - i % 8) := by
    intro i hi
    unfold bitL
    rw [getD_of (by rw [hi, hlen]; exact hq)]
    have e : ((codeL S n)[i / 8]'(by rw [hi, hlen]; exact hq)).toNat = pbN S (j / 4) 4 := by
      have h1 := byN_lt S (4 * n) (j / 4)
      have h2 : byN S (4 * n) (j / 4) = pbN S (j / 4) 4 := by unfold byN; rw [show min 4 (4 * n - 4 * (j / 4)) = 4 by omega]
      simp only [codeL, byT, List.getElem_map, List.getElem_range, hi]
      rw [UInt8.toNat_ofNat_of_lt' (by rw [h2] at h1 ⊢; exact h1), h2]
    rw [e]
  rw [hb (2 * j) (by omega), hb (2 * j + 1) (by omega)]
  have hp : pbN S (j / 4) 4 = ((sgN (S.getD (4 * (j / 4)) (0, 0)) * 4 + sgN (S.getD (4 * (j / 4) + 1) (0, 0))) * 4 + sgN (S.getD (4 * (j / 4) + 2) (0, 0))) * 4 + sgN (S.getD (4 * (j / 4) + 3) (0, 0)) := by simp [pbN]
  have l0 := sgN_lt (S.getD (4 * (j / 4)) (0, 0))
  have l1 := sgN_lt (S.getD (4 * (j / 4) + 1) (0, 0))
  have l2 := sgN_lt (S.getD (4 * (j / 4) + 2) (0, 0))
  have l3 := sgN_lt (S.getD (4 * (j / 4) + 3) (0, 0))
  have hs := sgN_bits (S.getD j (0, 0))
  have k1 := b01_le (decide (0 < (S.getD j (0, 0)).1))
  have k2 := b01_le (decide (0 < (S.getD j (0, 0)).2))
  rw [hp]
  have ht : j % 4 = 0 ∨ j % 4 = 1 ∨ j % 4 = 2 ∨ j % 4 = 3 := by omega
  unfold bt
  rcases ht with ht | ht | ht | ht
  · rw [show 4 * (j / 4) = j by omega] at *
    generalize b01 (decide (0 < (S.getD j (0, 0)).1)) = A at *
    generalize b01 (decide (0 < (S.getD j (0, 0)).2)) = B at *
    rw [show 7 - 2 * j % 8 = 7 by omega, show 7 - (2 * j + 1) % 8 = 6 by omega]
    omega
  · rw [show 4 * (j / 4) + 1 = j by omega] at *
    generalize b01 (decide (0 < (S.getD j (0, 0)).1)) = A at *
    generalize b01 (decide (0 < (S.getD j (0, 0)).2)) = B at *
    rw [show 7 - 2 * j % 8 = 5 by omega, show 7 - (2 * j + 1) % 8 = 4 by omega]
    omega
  · rw [show 4 * (j / 4) + 2 = j by omega] at *
    generalize b01 (decide (0 < (S.getD j (0, 0)).1)) = A at *
    generalize b01 (decide (0 < (S.getD j (0, 0)).2)) = B at *
    rw [show 7 - 2 * j % 8 = 3 by omega, show 7 - (2 * j + 1) % 8 = 2 by omega]
    omega
  · rw [show 4 * (j / 4) + 3 = j by omega] at *
    generalize b01 (decide (0 < (S.getD j (0, 0)).1)) = A at *
    generalize b01 (decide (0 < (S.getD j (0, 0)).2)) = B at *
    rw [show 7 - 2 * j % 8 = 1 by omega, show 7 - (2 * j + 1) % 8 = 0 by omega]
    omega
theorem cd_bit (wd : Nat) (sd : Int) (v : List Zp) (hw : wd % 8 = 0) (j : Nat) (hj : j < wd / 2) : bitL (cdS wd sd v).data.toList (2 * j) = b01 (decide (0 < (sumZ sd j v v.length).1)) ∧ bitL (cdS wd sd v).data.toList (2 * j + 1) = b01 (decide (0 < (sumZ sd j v v.length).2)) := by
  have h := code_bit (sumsL wd sd v) (wd / 8) j (by omega)
  have e : (sumsL wd sd v).getD j (0, 0) = sumZ sd j v v.length := by
    rw [getD_at (by rw [sumsL_len]; exact hj), sumsL_at]
  rw [e] at h
  exact h
theorem cdS_pos (wd : Nat) (sd : Int) (v : List Zp) (k : Int) (hk : 0 < k) : cdS wd sd (v.map (mulZ k)) = cdS wd sd v := by
  unfold cdS
  rw [sums_mul, codeL_map (mulZ k) (by simp [mulZ]) (sgN_pos k hk)]
theorem okP_of {p : Zp} (h1 : p.1.natAbs ≤ 1048576) (h2 : p.2.natAbs ≤ 1048576) : okP p = true := by
  simp only [okP, isBd, Bool.and_eq_true, decide_eq_true_eq]; omega
theorem all_okP {v : List Zp} (h : ∀ p ∈ v, p.1.natAbs ≤ 1048576 ∧ p.2.natAbs ≤ 1048576) : v.all okP = true := List.all_eq_true.2 fun p hp => okP_of (h p hp).1 (h p hp).2
theorem mul_abs (k a : Int) (K A : Nat) (hk : k.natAbs ≤ K) (ha : a.natAbs ≤ A) : (k * a).natAbs ≤ K * A := by
  rw [Int.natAbs_mul]; exact Nat.mul_le_mul hk ha
end Go.Proofs.YtmdmjjobhkpojaaDoor
