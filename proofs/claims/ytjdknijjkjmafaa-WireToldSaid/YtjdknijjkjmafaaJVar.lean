/-
  DERIVED. Numbers of seven bits: there and back.
-/
import Derived.Test.YtjdknijjkjmafaaSVarB
set_option linter.unusedVariables false
set_option linter.unusedSimpArgs false
namespace Go.Proofs.Ytjdknijjkjmafaa
open Go.RowKit Go.Proofs.SealMath
theorem sub_head (b : ByteArray) (a : Nat) (c : UInt8) (l : List UInt8) (h : sub b a (l.length + 1) = c :: l) : ∃ hh : a < b.size, b[a] = c ∧ sub b (a + 1) l.length = l := by
  have hl : (sub b a (l.length + 1)).length = l.length + 1 := by rw [h]; rfl
  have h1 : a < b.size := by
    unfold sub at hl
    rw [List.length_take, List.length_drop] at hl
    have : b.data.toList.length = b.size := by simp
    omega
  refine ⟨h1, ?_⟩
  have e : sub b a (l.length + 1) = b[a] :: sub b (a + 1) l.length := by
    unfold sub
    rw [List.drop_eq_getElem_cons (by simpa using h1), List.take_succ_cons]
    rfl
  rw [e] at h
  injection h with h2 h3
  exact ⟨h2, h3⟩
theorem sub_cons (b : ByteArray) (a n : Nat) (h : a < b.size) : sub b a (n + 1) = b[a] :: sub b (a + 1) n := by
  unfold sub
  rw [List.drop_eq_getElem_cons (by simpa using h), List.take_succ_cons]
  rfl
theorem u8_small (v : Nat) (h : v < 256) : (UInt8.ofNat v).toNat = v := by rw [UInt8.toNat_ofNat']; omega
theorem sub_le (b : ByteArray) (p k : Nat) (h : p + k ≤ b.size) : (sub b p k).length = k := sub_len b p k h
theorem vN_next (b : ByteArray) (p k : Nat) (h : p + k < b.size) : vN (sub b p (k + 1)) = vN (sub b p k) + (b[p + k]).toNat % 128 * 2 ^ (7 * k) := by
  rw [sub_snoc b p k h, vN_snoc, sub_len b p k (by omega)]
theorem pow7 (k : Nat) : 2 ^ (7 * (k + 1)) = 128 * 2 ^ (7 * k) := by rw [Nat.mul_add, Nat.pow_add, Nat.mul_comm]
theorem vG_put (b : ByteArray) (p : Nat) : ∀ (f v k : Nat), f + k = 9 → v < 2 * 128 ^ f → sub b (p + k) (pvL f v).length = pvL f v → (0 < k → 0 < v) →
    vG b p k (f + 2) = (vN (sub b p k) + v * 2 ^ (7 * k), p + k + (pvL f v).length, 0) := by
  intro f
  induction f with
  | zero =>
    intro v k hk hv hs h0
    have hk9 : k = 9 := by omega
    subst hk9
    have hv2 : v < 2 := by simpa using hv
    simp only [pvL, List.length_cons, List.length_nil] at hs
    obtain ⟨h1, h2, -⟩ := sub_head b (p + 9) _ [] hs
    have hc : (b[p + 9]).toNat = v := by rw [h2]; exact u8_small v (by omega)
    rw [vG, dif_pos h1, hc, if_neg (by omega), if_neg (by omega), if_neg (by have := h0 (by omega); omega), vN_next b p 9 h1, hc, Nat.mod_eq_of_lt (by omega)]
    simp [pvL]
  | succ f ih =>
    intro v k hk hv hs h0
    by_cases hlt : v < 128
    · rw [pvL, if_pos hlt] at hs ⊢
      obtain ⟨h1, h2, -⟩ := sub_head b (p + k) _ [] hs
      have hc : (b[p + k]).toNat = v := by rw [h2]; exact u8_small v (by omega)
      rw [vG, dif_pos h1, hc, if_neg (by omega), if_neg (by omega), if_neg (by intro ⟨a, c⟩; have := h0 c; omega), vN_next b p k h1, hc, Nat.mod_eq_of_lt hlt]
      simp
    · rw [pvL, if_neg hlt] at hs ⊢
      obtain ⟨h1, h2, h3⟩ := sub_head b (p + k) _ _ hs
      have hc : (b[p + k]).toNat = 128 + v % 128 := by rw [h2]; exact u8_small _ (by omega)
      have hv' : v / 128 < 2 * 128 ^ f := by rw [Nat.pow_succ] at hv; omega
      have := ih (v / 128) (k + 1) (by omega) hv' (by rw [← Nat.add_assoc]; exact h3) (fun _ => by omega)
      rw [vG, dif_pos h1, hc, if_neg (by omega), if_pos (by omega), this, vN_next b p k h1, hc, pow7]
      have e : (128 + v % 128) % 128 = v % 128 := by omega
      have e2 : v = v % 128 + 128 * (v / 128) := by omega
      rw [e]
      refine Prod.ext ?_ (Prod.ext ?_ rfl)
      · show vN (sub b p k) + v % 128 * 2 ^ (7 * k) + v / 128 * (128 * 2 ^ (7 * k)) = vN (sub b p k) + v * 2 ^ (7 * k)
        have e3 : v * 2 ^ (7 * k) = v % 128 * 2 ^ (7 * k) + v / 128 * (128 * 2 ^ (7 * k)) := by
          rw [← Nat.mul_assoc, ← Nat.add_mul, Nat.mul_comm (v / 128) 128, ← e2]
        omega
      · show p + (k + 1) + (pvL f (v / 128)).length = p + k + ((pvL f (v / 128)).length + 1)
        omega
theorem vG_only (b : ByteArray) (p : Nat) : ∀ (f k v q : Nat), f + k = 9 → vG b p k (f + 2) = (v, q, 0) →
    ∃ m, m < 2 * 128 ^ f ∧ v = vN (sub b p k) + m * 2 ^ (7 * k) ∧ q = p + k + (pvL f m).length ∧ sub b (p + k) (pvL f m).length = pvL f m ∧ q ≤ b.size ∧ (0 < k → 0 < m) := by
  intro f
  induction f with
  | zero =>
    intro k v q hk h
    have hk9 : k = 9 := by omega
    subst hk9
    rw [vG] at h
    split at h
    · rename_i h1
      split at h
      · simp at h
      · split at h
        · rename_i h2 h3; omega
        · split at h
          · simp at h
          · rename_i h2 h3 h4
            simp only [Prod.mk.injEq, and_true] at h
            obtain ⟨rfl, rfl⟩ := h
            refine ⟨(b[p + 9]).toNat, by simp; omega, ?_, by simp [pvL], ?_, by omega, fun _ => by omega⟩
            · rw [vN_next b p 9 h1, Nat.mod_eq_of_lt (by omega)]
            · simp only [pvL, List.length_cons, List.length_nil]
              rw [sub_cons b (p + 9) 0 h1, UInt8.ofNat_toNat]
              simp [sub]
    · simp at h
  | succ f ih =>
    intro k v q hk h
    rw [vG] at h
    split at h
    · rename_i h1
      split at h
      · simp at h
      · split at h
        · rename_i h2 h3
          obtain ⟨m, hm, hv, hq, hs, hqb, h0⟩ := ih (k + 1) v q (by omega) h
          have hm0 := h0 (by omega)
          have hcl : (b[p + k]).toNat < 256 := UInt8.toNat_lt _
          have hM : ¬ (b[p + k]).toNat % 128 + 128 * m < 128 := by omega
          have hd : ((b[p + k]).toNat % 128 + 128 * m) / 128 = m := by omega
          have hmo : 128 + ((b[p + k]).toNat % 128 + 128 * m) % 128 = (b[p + k]).toNat := by omega
          refine ⟨(b[p + k]).toNat % 128 + 128 * m, by rw [Nat.pow_succ]; omega, ?_, ?_, ?_, hqb, fun _ => by omega⟩
          · rw [hv, vN_next b p k h1, pow7, Nat.add_mul, Nat.mul_comm 128 m, Nat.mul_assoc]; omega
          · rw [pvL, if_neg hM, hd, hq, List.length_cons]; omega
          · rw [pvL, if_neg hM, hd, hmo, List.length_cons, sub_cons b (p + k) _ h1, UInt8.ofNat_toNat]
            rw [← Nat.add_assoc] at hs
            rw [hs]
        · split at h
          · simp at h
          · rename_i h2 h3 h4
            simp only [Prod.mk.injEq, and_true] at h
            obtain ⟨rfl, rfl⟩ := h
            have hlt : (b[p + k]).toNat < 128 := by omega
            have hp : 0 < 128 ^ f := Nat.pow_pos (by omega)
            refine ⟨(b[p + k]).toNat, by rw [Nat.pow_succ]; omega, ?_, ?_, ?_, by omega, fun _ => by omega⟩
            · rw [vN_next b p k h1, Nat.mod_eq_of_lt hlt]
            · rw [pvL, if_pos hlt]; simp
            · rw [pvL, if_pos hlt]; simp only [List.length_cons, List.length_nil]
              rw [sub_cons b (p + k) 0 h1, UInt8.ofNat_toNat]
              simp [sub]
    · simp at h
theorem two64 : 2 * 128 ^ 9 = 18446744073709551616 := by decide
theorem vA_put (b : ByteArray) (p v : Nat) (hv : v < 18446744073709551616) (hs : sub b p (pvL 9 v).length = pvL 9 v) (hp : p ≤ b.size) : vA b p = (v, p + (pvL 9 v).length, 0) := by
  unfold vA
  rw [if_pos (by omega)]
  have := vG_put b p 9 v 0 rfl (by rw [two64]; exact hv) hs (fun h => by omega)
  rw [Int.toNat_natCast, this]
  simp [sub, vN]
theorem vA_only (b : ByteArray) (p : Nat) (v q : Nat) (h : vA b p = (v, q, 0)) : v < 18446744073709551616 ∧ q = p + (pvL 9 v).length ∧ sub b p (pvL 9 v).length = pvL 9 v ∧ q ≤ b.size := by
  unfold vA at h
  split at h
  · rw [Int.toNat_natCast] at h
    obtain ⟨m, hm, hv, hq, hs, hqb, -⟩ := vG_only b p 9 0 v q rfl h
    have : v = m := by rw [hv]; simp [sub, vN]
    subst this
    exact ⟨by rw [← two64]; exact hm, hq, hs, hqb⟩
  · simp at h
theorem pvL_len (f v : Nat) : 1 ≤ (pvL f v).length ∧ (pvL f v).length ≤ f + 1 := by
  induction f generalizing v with
  | zero => simp [pvL]
  | succ f ih =>
    rw [pvL]; split
    · simp
    · have := ih (v / 128); simp; omega
end Go.Proofs.Ytjdknijjkjmafaa
