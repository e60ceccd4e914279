/-
  DERIVED. Codes of one bit: how far they are from one another; the chain that they make.
-/
import Derived.Test.YtnnbcdfpbdmgdaaDoorTBegun
set_option linter.unusedVariables false
set_option linter.unusedSimpArgs false
namespace Go.Proofs.YtnnbcdfpbdmgdaaDoor
open Go.RowKit Go.Maps Go.Sort Go.Proofs.BitMath Go.Proofs.TreeMath
abbrev zs (n : Nat) : List UInt8 := List.replicate n 0
/-- The bytes of the code with just bit i. -/
def bitL1 (n i : Nat) : List UInt8 := flipL (zs n) i
theorem bitL1_len (n i : Nat) : (bitL1 n i).length = n := by unfold bitL1; rw [flipL_length]; simp
def bitC (n i : Nat) : Cd n := ⟨⟨(bitL1 n i).toArray⟩, by show (bitL1 n i).toArray.size = n; simp [bitL1_len]⟩
theorem bitC_bytes (n i : Nat) : (bitC n i).1.data.toList = bitL1 n i := by simp [bitC]
theorem zs_bit (n j : Nat) : bitL (zs n) j = 0 := by
  unfold bitL
  have : (zs n).getD (j / 8) 0 = 0 := by
    rw [List.getD_eq_getElem?_getD, List.getElem?_replicate]
    split <;> rfl
  rw [this]
  simp [bt]
theorem wt_zs (n : Nat) : wt (xorL (zs n) (zs n)) = 0 := xorL_self _
theorem bit_dist1 {n i : Nat} (hi : i < 8 * n) : wt (xorL (zs n) (bitL1 n i)) = 1 := by
  have := dist_flip (zs n) (zs n) i rfl (by simpa using hi)
  rw [zs_bit, wt_zs] at this
  unfold bitL1
  omega
theorem bt_pow (a b : Nat) (ha : a < 8) (hb : b < 8) : bt (2 ^ a) b = if a = b then 1 else 0 := by
  have h1 : ∀ a < 8, ∀ b < 8, bt (2 ^ a) b = if a = b then 1 else 0 := by decide
  exact h1 a ha b hb
theorem bit_other {n i j : Nat} (hi : i < 8 * n) (hij : i ≠ j) : bitL (bitL1 n i) j = 0 := by
  unfold bitL bitL1 flipL
  have hlen : i / 8 < (zs n).length := by simp; omega
  have hz : (zs n).getD (i / 8) 0 = 0 := by
    rw [List.getD_eq_getElem?_getD, List.getElem?_replicate]
    split <;> rfl
  rw [hz]
  by_cases hb : j / 8 = i / 8
  · rw [hb, List.getD_eq_getElem?_getD, List.getElem?_set_self hlen]
    have h2 : ((some ((0 : UInt8) ^^^ mk i)).getD 0).toNat = 2 ^ (7 - i % 8) := by
      show ((0 : UInt8) ^^^ mk i).toNat = _
      rw [UInt8.zero_xor, mk_toNat]
    rw [h2, bt_pow _ _ (by omega) (by omega), if_neg (by omega)]
  · rw [List.getD_eq_getElem?_getD, List.getElem?_set_ne (fun e => hb e.symm), List.getElem?_replicate]
    split <;> simp [bt]
theorem bit_two {n i j : Nat} (hi : i < 8 * n) (hj : j < 8 * n) (hij : i ≠ j) : dC (bitC n i) (bitC n j) = 2 := by
  unfold dC
  rw [bitC_bytes, bitC_bytes]
  have h1 := dist_flip (bitL1 n i) (zs n) j (by rw [bitL1_len]; simp) (by rw [bitL1_len]; exact hj)
  rw [bit_other hi hij, zs_bit, xorL_comm (bitL1 n i) (zs n), bit_dist1 hi] at h1
  have : wt (xorL (bitL1 n i) (bitL1 n j)) = wt (xorL (bitL1 n i) (flipL (zs n) j)) := rfl
  omega
theorem bitC_inj {n i j : Nat} (hi : i < 8 * n) (hj : j < 8 * n) (h : bitC n i = bitC n j) : i = j := by
  by_cases e : i = j
  · exact e
  · exfalso
    have h1 := bit_two hi hj e
    rw [h, dC_self] at h1
    cases h1
/-- The chain of the first i. -/
def chn (n i : Nat) : List (Nd (Cd n)) := (List.range i).map (fun j => ⟨bitC n j, true, if j = 0 then none else some (j - 1), if j = 0 then 0 else 2⟩)
theorem chn_len (n i : Nat) : (chn n i).length = i := by simp [chn]
theorem chn_at {n i j : Nat} (h : j < i) : (chn n i)[j]? = some ⟨bitC n j, true, if j = 0 then none else some (j - 1), if j = 0 then 0 else 2⟩ := by
  unfold chn
  rw [List.getElem?_map, List.getElem?_range h]
  rfl
theorem chn_codes (n i : Nat) : (chn n i).map Nd.code = (List.range i).map (bitC n) := by simp [chn]
theorem chn_lives (n i : Nat) : lives (chn n i) = (List.range i).map (bitC n) := by
  unfold lives
  rw [List.filter_eq_self.2 (fun a ha => by
    obtain ⟨j, -, rfl⟩ := List.mem_map.1 ha
    rfl)]
  exact chn_codes n i
/-- One more hangs at the end. -/
theorem chn_hang {n i : Nat} (hi : i < 8 * n) (wf : WF dC (chn n i)) : hang dC (chn n i) (bitC n i) = chn n (i + 1) := by
  rcases Nat.eq_zero_or_pos i with h0 | h0
  · subst h0
    show hang dC [] (bitC n 0) = _
    rw [hang_nil]
    rfl
  · obtain ⟨nd, h1, h2, h3⟩ := hang_cons wf (by rw [chn_len]; exact h0) (bitC n i)
    have hr : reach dC (chn n i) (bitC n i) (chn n i).length 0 < i := by
      exact Nat.lt_of_lt_of_eq (List.getElem?_eq_some_iff.1 h1).1 (chn_len n i)
    rw [h3]
    generalize reach dC (chn n i) (bitC n i) (chn n i).length 0 = r at *
    rw [chn_at hr] at h1
    cases h1
    have hd : dC (bitC n r) (bitC n i) = 2 := bit_two (by omega) hi (by omega)
    simp only [hd] at h2 ⊢
    have hre : r = i - 1 := by
      rcases Nat.lt_or_ge (r + 1) i with h | h
      · exfalso
        refine child_none h2 (chn_at h) ⟨?_, ?_⟩
        · simp
        · simp
      · omega
    subst hre
    unfold chn
    rw [List.range_succ, List.map_append]
    simp only [List.map_cons, List.map_nil]
    rw [if_neg (by omega), if_neg (by omega)]
theorem chn_dep {n i : Nat} (wf : WF dC (chn n i)) : ∀ j, j < i → dep (chn n i) (j + 1) j = j + 1 := by
  intro j
  induction j with
  | zero =>
    intro h
    simp [dep, chn_at h]
  | succ j ih =>
    intro h
    have h1 := chn_at (n := n) h
    rw [dep_child wf h1 (i := j) (by simp), ih (by omega)]
end Go.Proofs.YtnnbcdfpbdmgdaaDoor
