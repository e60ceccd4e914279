/-
  DERIVED. What Parse takes is a frame; a frame is taken.
-/
import Derived.Test.YtdegclccbgpgiaaDoorSParse
namespace Go.Proofs.YtdegclccbgpgiaaDoor
open Go.RowKit Go.Proofs.SealMath
theorem numL_four (a b c d : UInt8) : numL [a, b, c, d] = 16777216 * a.toNat + 65536 * b.toNat + 256 * c.toNat + d.toNat := by
  simp only [numL, List.foldl_cons, List.foldl_nil]; omega
theorem fixL_four (n : Nat) : fixL n 4 = [UInt8.ofNat (n / 16777216 % 256), UInt8.ofNat (n / 65536 % 256), UInt8.ofNat (n / 256 % 256), UInt8.ofNat (n % 256)] := by
  have e : List.range 4 = [0, 1, 2, 3] := by decide
  unfold fixL fxB; rw [e]; simp
theorem num_fix (n : Nat) (h : n < 4294967296) : numL (fixL n 4) = n := by
  rw [fixL_four, numL_four, u8n, u8n, u8n, u8n]; omega
theorem four_of (l : List UInt8) (h : l.length = 4) : ∃ a b c d, l = [a, b, c, d] := by
  match l, h with
  | [a, b, c, d], _ => exact ⟨a, b, c, d, rfl⟩
theorem fix_num (l : List UInt8) (h : l.length = 4) : fixL (numL l) 4 = l := by
  obtain ⟨a, b, c, d, rfl⟩ := four_of l h
  have ha := a.toNat_lt; have hb := b.toNat_lt; have hc := c.toNat_lt; have hd := d.toNat_lt
  rw [fixL_four, numL_four]
  simp only [List.cons.injEq, and_true]
  refine ⟨?_, ?_, ?_, ?_⟩ <;> apply UInt8.toNat_inj.1 <;> rw [u8n] <;> omega
theorem num_one (c : UInt8) : numL [c] = c.toNat := by simp [numL]
theorem of_one (c : UInt8) : UInt8.ofNat (numL [c]) = c := by rw [num_one]; apply UInt8.toNat_inj.1; rw [u8n]; exact Nat.mod_eq_of_lt c.toNat_lt
/-- Where head tells no refusal. -/
theorem hdA_yes (b : ByteArray) (a : Nat) (h : (hdA b a).2.2.2 = 0) : a + 10 ≤ b.size ∧ ∃ k n, 1 ≤ k ∧ k ≤ 255 ∧ n ≤ 65536 ∧ hdA b a = (k, n, crc 0 (hdL k n), 0) ∧ sub b a 6 = hdL k n ∧ sub b (a + 6) 4 = lowL (crc 0 (hdL k n)) := by
  unfold hdA at h
  split at h
  · simp at h
  · split at h
    · split at h
      · simp at h
      · split at h
        · split at h
          · simp at h
          · split at h
            · rename_i h1 h2 h3 h4 h5 h6
              have e : hdA b a = (numL (sub b (a + 1) 1), numL (sub b (a + 2) 4), crc 0 (sub b a 6), 0) := by
                unfold hdA; rw [if_neg h1, if_pos h2, if_neg h3, if_pos h4, if_neg h5, if_pos h6]
              obtain ⟨c, hc⟩ := sub_one b (a + 1) (by omega)
              have hl := c.toNat_lt
              have h6' : sub b a 6 = hdL (numL (sub b (a + 1) 1)) (numL (sub b (a + 2) 4)) := by
                unfold hdL
                rw [fix_num _ (sub_len b (a + 2) 4 (by omega)), sub_add b a 1 5, h2, sub_add b (a + 1) 1 4, hc, of_one]; rfl
              rw [hc, num_one] at h5
              refine ⟨by omega, numL (sub b (a + 1) 1), numL (sub b (a + 2) 4), by rw [hc, num_one]; omega, by rw [hc, num_one]; omega, h6, by rw [e, ← h6'], h6', by rw [← h6']; exact h4⟩
            · simp at h
        · simp at h
    · simp at h
/-- What Parse takes is a frame. -/
theorem psA_yes (b : ByteArray) (a : Nat) (h : (psA b a).2.2.2 = 0) : ∃ k p, 1 ≤ k ∧ k ≤ 255 ∧ p.length ≤ 65536 ∧ a + (p.length + 14) ≤ b.size ∧ psA b a = (k, p, a + (p.length + 14), 0) ∧ sub b a (p.length + 14) = frL k p := by
  unfold psA at h ⊢
  by_cases h0 : (hdA b a).2.2.2 = 0
  · rw [if_pos h0] at h ⊢
    obtain ⟨h10, k, n, hk1, hk2, hn, e, e6, e4⟩ := hdA_yes b a h0
    rw [e] at h ⊢
    dsimp only at h ⊢
    by_cases h14 : b.size < a + 14 + n
    · rw [if_pos h14] at h; simp at h
    · rw [if_neg h14] at h ⊢
      by_cases hq : sub b (a + 10 + n) 4 = lowL (crc (crc 0 (hdL k n)) (sub b (a + 10) n))
      · rw [if_pos hq]
        have hl := sub_len b (a + 10) n (by omega)
        refine ⟨k, sub b (a + 10) n, hk1, hk2, by omega, by omega, by rw [hl, show a + 14 + n = a + (n + 14) by omega], ?_⟩
        unfold frL
        rw [hl, show n + 14 = 6 + 4 + n + 4 by omega, sub_add b a (6 + 4 + n) 4, sub_add b a (6 + 4) n, sub_add b a 6 4, e6, e4, show a + (6 + 4 + n) = a + 10 + n by omega, hq, crc_append]
      · rw [if_neg hq] at h; simp at h
  · rw [if_neg h0] at h; exact absurd h h0
theorem sub_part (b : ByteArray) (a n i m : Nat) (l : List UInt8) (h : sub b a n = l) (him : i + m ≤ n) : sub b (a + i) m = (l.drop i).take m := by
  subst h; unfold sub
  rw [List.drop_take, List.take_take, List.drop_drop]
  congr 1; omega
theorem lowL_len (s : Nat) : (lowL s).length = 4 := rfl
/-- A frame is taken, wherever it stands. -/
theorem psA_frame (b : ByteArray) (a k : Nat) (p : List UInt8) (hk1 : 1 ≤ k) (hk2 : k ≤ 255) (hp : p.length ≤ 65536) (hs : a + (p.length + 14) ≤ b.size) (h : sub b a (p.length + 14) = frL k p) :
    psA b a = (k, p, a + (p.length + 14), 0) := by
  have hd := hdL_len k p.length
  have e6 : sub b a 6 = hdL k p.length := by
    have := sub_part b a _ 0 6 _ h (by omega)
    rw [Nat.add_zero] at this
    rw [this]; unfold frL
    rw [List.drop_zero, List.append_assoc, List.append_assoc, List.take_append_of_le_length (by omega), List.take_of_length_le (by omega)]
  have e4 : sub b (a + 6) 4 = lowL (crc 0 (hdL k p.length)) := by
    have := sub_part b a _ 6 4 _ h (by omega)
    rw [this]; unfold frL
    rw [List.append_assoc, List.append_assoc, List.drop_append_of_le_length (by omega), List.drop_of_length_le (by omega), List.nil_append, List.take_append_of_le_length (by rw [lowL_len]; omega), List.take_of_length_le (by rw [lowL_len]; omega)]
  have ep : sub b (a + 10) p.length = p := by
    have := sub_part b a _ 10 p.length _ h (by omega)
    rw [this]; unfold frL
    rw [List.append_assoc, List.drop_append_of_le_length (by simp [hd, lowL_len]), List.drop_of_length_le (by simp [hd, lowL_len]), List.nil_append, List.take_append_of_le_length (by omega), List.take_of_length_le (by omega)]
  have es : sub b (a + 10 + p.length) 4 = lowL (crc 0 (hdL k p.length ++ p)) := by
    have := sub_part b a _ (10 + p.length) 4 _ h (by omega)
    rw [Nat.add_assoc, this]; unfold frL
    rw [List.drop_append_of_le_length (by simp [hd, lowL_len]; omega), List.drop_of_length_le (by simp [hd, lowL_len]; omega), List.nil_append, List.take_of_length_le (by rw [lowL_len]; omega)]
  have e1 : sub b a 1 = [167] := by
    have := sub_part b a 6 0 1 _ e6 (by omega)
    rw [Nat.add_zero] at this; rw [this]; rfl
  have ek : sub b (a + 1) 1 = [UInt8.ofNat k] := by
    have := sub_part b a 6 1 1 _ e6 (by omega)
    rw [this]; rfl
  have en : sub b (a + 2) 4 = fixL p.length 4 := by
    have := sub_part b a 6 2 4 _ e6 (by omega)
    rw [this]
    show (fixL p.length 4).take 4 = _
    rw [List.take_of_length_le (by rw [fixL_len]; omega)]
  have ekn : numL (sub b (a + 1) 1) = k := by rw [ek, num_one, u8n]; omega
  have enn : numL (sub b (a + 2) 4) = p.length := by rw [en, num_fix _ (by omega)]
  have eh : hdA b a = (k, p.length, crc 0 (hdL k p.length), 0) := by
    unfold hdA
    rw [if_neg (by omega), if_pos e1, if_neg (by omega), e6, if_pos e4, ekn, enn, if_neg (by omega), if_pos hp]
  unfold psA
  rw [eh]
  dsimp only
  rw [if_pos rfl, if_neg (by omega), ep, ← crc_append, if_pos es, show a + 14 + p.length = a + (p.length + 14) by omega]
/-- Frame's answers. -/
theorem frT_ok (k : Int) (p : ByteArray) (h : frE k p = 0) : ∃ a : Nat, k = a ∧ 1 ≤ a ∧ a ≤ 255 ∧ p.data.toList.length ≤ 65536 ∧ frT k p = frL a p.data.toList := by
  unfold frE at h
  unfold frT
  by_cases h1 : 1 ≤ k ∧ k ≤ 255
  · rw [if_pos h1] at h ⊢
    by_cases h2 : p.size ≤ 65536
    · rw [if_pos h2]
      exact ⟨k.toNat, by omega, by omega, by omega, by rw [← ba_size]; exact h2, rfl⟩
    · rw [if_neg h2] at h; simp at h
  · rw [if_neg h1] at h; simp at h
theorem frT_no (k : Int) (p : ByteArray) (h : frE k p ≠ 0) : frT k p = [] := by
  unfold frE at h
  unfold frT
  by_cases h1 : 1 ≤ k ∧ k ≤ 255
  · rw [if_pos h1] at h ⊢
    by_cases h2 : p.size ≤ 65536
    · rw [if_pos h2] at h; exact absurd rfl h
    · rw [if_neg h2]
  · rw [if_neg h1]
theorem frT_yes (k : Nat) (p : ByteArray) (h1 : 1 ≤ k) (h2 : k ≤ 255) (h3 : p.data.toList.length ≤ 65536) : frE (k : Int) p = 0 ∧ frT (k : Int) p = frL k p.data.toList := by
  have hh : 1 ≤ (k : Int) ∧ (k : Int) ≤ 255 := by omega
  rw [← ba_size] at h3
  unfold frE frT
  rw [if_pos hh, if_pos h3, if_pos hh, if_pos h3]
  exact ⟨rfl, rfl⟩
/-- Parse of a frame that stands alone or among other bytes. -/
theorem prA_frame (b : ByteArray) (a k : Nat) (p : List UInt8) (x y : List UInt8) (hk1 : 1 ≤ k) (hk2 : k ≤ 255) (hp : p.length ≤ 65536) (hb : b.data.toList = x ++ frL k p ++ y) (ha : x.length = a) :
    prA b a = (k, p, a + (p.length + 14), 0) := by
  have hs : b.size = a + (p.length + 14) + y.length := by rw [ba_size, hb]; simp [frL_len, ha]; omega
  unfold prA
  rw [if_pos (by omega), Int.toNat_natCast]
  refine psA_frame b a k p hk1 hk2 hp (by omega) ?_
  unfold sub
  rw [hb, List.append_assoc, List.drop_append_of_le_length (by omega), List.drop_of_length_le (by omega), List.nil_append, List.take_append_of_le_length (by rw [frL_len]; omega), List.take_of_length_le (by rw [frL_len]; omega)]
theorem known : crc 0 [49, 50, 51, 52, 53, 54, 55, 56, 57] = 3808858755 := by decide +kernel
end Go.Proofs.YtdegclccbgpgiaaDoor
