/-
  DERIVED. Updates as bytes: there and back.
-/
import Derived.Test.YtbfgnfnihnmjbaaDoorJUn
set_option linter.unusedVariables false
set_option linter.unusedSimpArgs false
namespace Go.Proofs.YtbfgnfnihnmjbaaDoor
open Go.RowKit Go.Proofs.SealMath
theorem sub_app (b : ByteArray) (x y z : List UInt8) (h : b.data.toList = x ++ y ++ z) : sub b x.length y.length = y := by
  unfold sub; rw [h]; simp
theorem ba_len (b : ByteArray) : b.size = b.data.toList.length := by simp
/-- What Write writes, unpack tells. -/
theorem un_put (k s i : Nat) (c : List UInt8) (x : Int) (hk : k = 1 ∨ k = 2) (hs : 1 ≤ s ∧ s ≤ 1152921504606846976) (hi : i ≤ 281474976710656) :
    unA k ⟨(upP s i c).toArray⟩ x = if fitB k c.length x = true then (⟨s, k, i, c⟩, 0) else (up0, 11) := by
  obtain ⟨b, hb⟩ : ∃ b : ByteArray, b = ⟨(upP s i c).toArray⟩ := ⟨_, rfl⟩
  rw [← hb]
  have hl : b.data.toList = pvL 9 s ++ pvL 9 i ++ c := by rw [hb]; rfl
  have hsz : b.size = (pvL 9 s).length + (pvL 9 i).length + c.length := by rw [ba_len, hl]; simp; omega
  have v1 : vA b ((0 : Nat) : Int) = (s, 0 + (pvL 9 s).length, 0) := vA_put b 0 s (by omega) (by
    have := sub_app b [] (pvL 9 s) (pvL 9 i ++ c) (by rw [hl]; simp)
    simpa using this) (by omega)
  have v1' : vA b 0 = (s, (pvL 9 s).length, 0) := by rw [Nat.zero_add] at v1; exact v1
  have v2 : vA b ((pvL 9 s).length : Int) = (i, (pvL 9 s).length + (pvL 9 i).length, 0) := vA_put b _ i (by omega) (sub_app b (pvL 9 s) (pvL 9 i) c hl) (by omega)
  unfold unA
  rw [if_pos hk, v1', v2]
  dsimp only
  rw [if_pos rfl, if_pos hs, if_pos rfl, if_pos hi, hsz]
  have e1 : (pvL 9 s).length + (pvL 9 i).length + c.length - ((pvL 9 s).length + (pvL 9 i).length) = c.length := by omega
  have e2 : b.data.toList.drop ((pvL 9 s).length + (pvL 9 i).length) = c := by rw [hl]; simp
  rw [e1, e2]
theorem vA_ok (b : ByteArray) (p : Nat) (h : (vA b p).2.2 = 0) : vA b p = ((vA b p).1, (vA b p).2.1, 0) := Prod.ext rfl (Prod.ext rfl h)
theorem bytes_of (b : ByteArray) (v q i r : Nat) (h1 : vA b ((0 : Nat) : Int) = (v, q, 0)) (h2 : vA b q = (i, r, 0)) : b.data.toList = upP v i (b.data.toList.drop r) := by
  obtain ⟨a1, a2, a3, a4⟩ := vA_only b 0 v q h1
  obtain ⟨c1, c2, c3, c4⟩ := vA_only b q i r h2
  unfold upP
  unfold sub at a3 c3
  have e1 : b.data.toList = b.data.toList.take q ++ b.data.toList.drop q := (List.take_append_drop _ _).symm
  have e2 : b.data.toList.drop q = (b.data.toList.drop q).take (pvL 9 i).length ++ b.data.toList.drop r := by
    rw [c2, ← List.drop_drop]; exact (List.take_append_drop _ _).symm
  have e3 : b.data.toList.take q = pvL 9 v := by
    rw [a2, Nat.zero_add]; simpa using a3
  rw [c3] at e2
  rw [e2, e3] at e1
  rw [List.append_assoc]
  exact e1
/-- What unpack tells was written. -/
theorem un_only (k : Nat) (b : ByteArray) (x : Int) (h : (unA k b x).2 = 0) : ∃ s i c, unA k b x = (⟨s, k, i, c⟩, 0) ∧ (k = 1 ∨ k = 2) ∧ (1 ≤ s ∧ s ≤ 1152921504606846976) ∧ i ≤ 281474976710656 ∧ fitB k c.length x = true ∧ b.data.toList = upP s i c := by
  unfold unA at h ⊢
  split at h
  · rename_i hk
    split at h
    · rename_i h1
      split at h
      · rename_i h2
        split at h
        · rename_i h3
          split at h
          · rename_i h4
            split at h
            · rename_i h5
              refine ⟨(vA b 0).1, (vA b (vA b 0).2.1).1, b.data.toList.drop (vA b (vA b 0).2.1).2.1, ?_, hk, h2, h4, ?_, ?_⟩
              · rw [if_pos hk, if_pos h1, if_pos h2, if_pos h3, if_pos h4, if_pos h5]
              · rw [List.length_drop, ← ba_len]; exact h5
              · exact bytes_of b _ _ _ _ (vA_ok b 0 h1) (vA_ok b _ h3)
            · simp at h
          · simp at h
        · rename_i h3; exact absurd h h3
      · simp at h
    · rename_i h1; exact absurd h h1
  · simp at h
theorem un_no (k : Nat) (b : ByteArray) (x : Int) (h : (unA k b x).2 ≠ 0) : (unA k b x).1 = up0 := by
  unfold unA at h ⊢
  split
  · split
    · split
      · split
        · split
          · split
            · rename_i h1 h2 h3 h4 h5 h6
              rw [if_pos h1, if_pos h2, if_pos h3, if_pos h4, if_pos h5, if_pos h6] at h
              exact absurd rfl h
            · rfl
          · rfl
        · rfl
      · rfl
    · rfl
  · rfl
theorem wE_up {s k i : Nat} {n : Nat} (hk : k = 1 ∨ k = 2) (hs : 1 ≤ s ∧ s ≤ 1152921504606846976) (hi : i ≤ 281474976710656) (hf : (k = 1 ∧ 8 ≤ n ∧ n ≤ 128 ∧ n % 8 = 0) ∨ (k = 2 ∧ n = 0)) : wE s k i n = 0 := by
  unfold wE; rw [if_pos (by omega), if_pos (by omega), if_pos (by omega), if_pos (by omega)]
theorem fit_n {k n : Nat} {x : Int} (hk : k = 1 ∨ k = 2) (hW : isW x = true) (hf : fitB k n x = true) : ((k = 1 ∧ 8 ≤ n ∧ n ≤ 128 ∧ n % 8 = 0) ∨ (k = 2 ∧ n = 0)) ∧ (k = 1 → (n : Int) = x / 8) := by
  have h1 := isW_bd hW
  have h2 := isW_mod hW
  unfold fitB at hf
  rcases hk with rfl | rfl
  · rw [if_neg (by decide)] at hf
    have := (chk_ok.1 (by simpa using hf)).2
    exact ⟨.inl ⟨rfl, by omega, by omega, by omega⟩, fun _ => this⟩
  · rw [if_pos (by decide)] at hf
    exact ⟨.inr ⟨rfl, by simpa using hf⟩, fun h => by omega⟩
end Go.Proofs.YtbfgnfnihnmjbaaDoor
