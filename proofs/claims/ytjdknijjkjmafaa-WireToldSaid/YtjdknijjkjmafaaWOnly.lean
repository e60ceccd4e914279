/-
  DERIVED. What is read, written again, is the same bytes.
-/
import Derived.Test.YtjdknijjkjmafaaWTold
import Derived.Test.YtjdknijjkjmafaaWAskP
set_option linter.unusedVariables false
set_option linter.unusedSimpArgs false
namespace Go.Proofs.Ytjdknijjkjmafaa
open Go.RowKit Go.Proofs.SealMath
abbrev fsQ (m : Nat) (f : Fs) : Rq := ⟨m, f.id, ⟨f.c.toArray⟩, f.k, f.r⟩
theorem end_zero {b : ByteArray} {s : RS} (h : endE b s = 0) : s.2 = 0 ∧ b.size ≤ s.1 := by
  unfold endE at h
  split at h
  · simp at h
  · rename_i h1
    exact ⟨h, by have h2 : ¬ (s.2 = 0 ∧ s.1 < b.size) := h1; have := fun x => h2 ⟨h, x⟩; omega⟩
theorem hd_bytes {c : Nat} {b : ByteArray} (h : (hdX c b).1 = 0) (hc : c < 256) : 2 ≤ b.size ∧ sub b 0 2 = [UInt8.ofNat c, UInt8.ofNat ((hdX c b).2 + 1)] := by
  unfold hdX at h ⊢
  by_cases h0 : b.size = 0
  · rw [dif_pos h0] at h; simp at h
  · rw [dif_neg h0] at h ⊢
    by_cases hk : (b[0]).toNat ≠ c
    · rw [if_pos hk] at h; simp at h
    · rw [if_neg hk] at h ⊢
      by_cases h1 : b.size = 1
      · rw [dif_pos h1] at h; simp at h
      · rw [dif_neg h1] at h ⊢
        by_cases h3 : 1 ≤ (b[1]'(by omega)).toNat ∧ (b[1]'(by omega)).toNat ≤ 9
        · rw [if_pos h3]
          refine ⟨by omega, ?_⟩
          have e0 : b[0] = UInt8.ofNat c := by
            have : (b[0]).toNat = c := Decidable.not_not.1 hk
            rw [← this, UInt8.ofNat_toNat]
          have e1 : b[1]'(by omega) = UInt8.ofNat ((b[1]'(by omega)).toNat - 1 + 1) := by
            rw [Nat.sub_add_cancel h3.1, UInt8.ofNat_toNat]
          rw [sub_cons b 0 1 (by omega), sub_cons b 1 0 (by omega), sub_zero]
          simp only
          rw [← e0, ← e1]
        · rw [if_neg h3] at h; simp at h
theorem whole {b : ByteArray} {p n : Nat} {A W : List UInt8} (h1 : sub b 0 p = A) (h2 : sub b p n = W) (h3 : b.size ≤ p + n) : b.data.toList = A ++ W := by
  have e := sub_add' b 0 p n
  rw [Nat.zero_add, h1, h2] at e
  rw [← e]
  unfold sub
  rw [List.drop_zero, List.take_of_length_le (by rw [nm_size]; exact h3)]
theorem ba_eq (b : ByteArray) : (⟨b.data.toList.toArray⟩ : ByteArray) = b := by
  apply ByteArray.ext; simp
theorem tsz (l : List UInt8) : (⟨l.toArray⟩ : ByteArray).size = l.length := List.size_toArray
/-- Read of a request, only what is written. -/
theorem rdQ_only (i : Nat) (b : ByteArray) (f : Fs) (q : Nat) (h2 : 2 ≤ b.size) (h : rdQ i b (2, 0) = (f, (q, 0))) (m : Nat) :
    q = 2 + (wrQ i (fsQ m f)).length ∧ sub b 2 (wrQ i (fsQ m f)).length = wrQ i (fsQ m f) ∧ q ≤ b.size ∧ ckQ i (fsQ m f) = (false, false) ∧ clQ i (fsQ m f) = ⟨m, 0, eB, 0, 0⟩ := by
  have z : ∀ (n : Nat), decide ((n : Int) < 0) = false := fun n => decide_eq_false (by omega)
  have nt := seqC numC (fun _ => textC)
  have tn := seqC textC (fun _ => numC)
  have hc : i = 0 ∨ i = 1 ∨ i = 2 ∨ i = 3 ∨ i = 4 ∨ 5 ≤ i := by omega
  rcases hc with rfl | rfl | rfl | rfl | rfl | hi
  · simp only [rdQ, Prod.mk.injEq] at h
    obtain ⟨hf, hs⟩ := h
    have e := nt.only b 2 ((rdN b (2, 0)).1, (rdT b (rdN b (2, 0)).2).1) q h2 (by unfold seqR; rw [hs])
    obtain ⟨⟨v1, v2⟩, e1, e2, e3⟩ := e
    subst hf
    simp only [wrQ, fsQ, wrN, wrT, tsz, Int.toNat_natCast, ckQ, clQ] at *
    exact ⟨e1, e2, e3, by rw [z, decide_eq_false (by omega)], rfl⟩
  · simp only [rdQ, Prod.mk.injEq] at h
    obtain ⟨hf, hs⟩ := h
    obtain ⟨v1, e1, e2, e3⟩ := numC.only b 2 (rdN b (2, 0)).1 q h2 (Prod.ext rfl hs)
    subst hf
    simp only [wrQ, fsQ, wrN, wrT, tsz, Int.toNat_natCast, ckQ, clQ] at *
    exact ⟨e1, e2, e3, by rw [z], rfl⟩
  · simp only [rdQ, Prod.mk.injEq] at h
    obtain ⟨hf, hs⟩ := h
    obtain ⟨v1, e1, e2, e3⟩ := numC.only b 2 (rdN b (2, 0)).1 q h2 (Prod.ext rfl hs)
    subst hf
    simp only [wrQ, fsQ, wrN, wrT, tsz, Int.toNat_natCast, ckQ, clQ] at *
    exact ⟨e1, e2, e3, by rw [z], rfl⟩
  · simp only [rdQ, Prod.mk.injEq] at h
    obtain ⟨hf, hs⟩ := h
    have e := tn.only b 2 ((rdT b (2, 0)).1, (rdN b (rdT b (2, 0)).2).1) q h2 (by unfold seqR; rw [hs])
    obtain ⟨⟨v1, v2⟩, e1, e2, e3⟩ := e
    subst hf
    simp only [wrQ, fsQ, wrN, wrT, tsz, Int.toNat_natCast, ckQ, clQ] at *
    exact ⟨e1, e2, e3, by rw [z, decide_eq_false (by omega)], rfl⟩
  · simp only [rdQ, Prod.mk.injEq] at h
    obtain ⟨hf, hs⟩ := h
    have e := tn.only b 2 ((rdT b (2, 0)).1, (rdN b (rdT b (2, 0)).2).1) q h2 (by unfold seqR; rw [hs])
    obtain ⟨⟨v1, v2⟩, e1, e2, e3⟩ := e
    subst hf
    simp only [wrQ, fsQ, wrN, wrT, tsz, Int.toNat_natCast, ckQ, clQ] at *
    exact ⟨e1, e2, e3, by rw [z, decide_eq_false (by omega)], rfl⟩
  · match i, hi with
    | k + 5, _ =>
      simp only [rdQ, Prod.mk.injEq] at h
      obtain ⟨hf, hs⟩ := h
      subst hf
      have hq : 2 = q := hs.1
      subst hq
      exact ⟨rfl, sub_zero b 2, h2, rfl, rfl⟩
/-- What Asked read, Ask writes. -/
theorem ask_again (b : ByteArray) (h : (askedA b).2.2 = 0) : askA (fsQ (askedA b).1 (askedA b).2.1) = (b.data.toList, 0) ∧ (hdX 81 b).1 = 0 := by
  unfold askedA at h ⊢
  by_cases hx : (hdX 81 b).1 = 0
  · rw [if_neg (fun g => g hx)] at h ⊢
    by_cases he : endE b (rdQ (hdX 81 b).2 b (2, 0)).2 = 0
    · rw [if_neg (fun g => g he)]
      refine ⟨?_, hx⟩
      obtain ⟨h2, hd⟩ := hd_bytes hx (by omega)
      have hi := hdX_lt 81 b
      obtain ⟨i, hie⟩ : ∃ i, i = (hdX 81 b).2 := ⟨_, rfl⟩
      rw [← hie] at hd hi he ⊢
      obtain ⟨s2, s3⟩ := end_zero he
      rcases hR : rdQ i b (2, 0) with ⟨f, q, e⟩
      rw [hR] at s2 s3
      simp only at s2 s3
      subst s2
      obtain ⟨e1, e2, e3, e4, e5⟩ := rdQ_only i b f q h2 hR (i + 1)
      have hw := whole hd e2 (by omega)
      have st : stQ i (fsQ (i + 1) f) = false := by
        unfold stQ; rw [e5]
        have : rqE ⟨((i + 1 : Nat) : Int), 0, eB, 0, 0⟩ ⟨((i + 1 : Nat) : Int), 0, eB, 0, 0⟩ = true := (rqE_iff _ _).2 rfl
        rw [this]; rfl
      unfold askA
      have eo : (fsQ (i + 1) f).op.toNat - 1 = i := by show ((i + 1 : Nat) : Int).toNat - 1 = i; omega
      have eo2 : (fsQ (i + 1) f).op.toNat = i + 1 := by show ((i + 1 : Nat) : Int).toNat = i + 1; omega
      have e9 : 1 ≤ (fsQ (i + 1) f).op ∧ (fsQ (i + 1) f).op ≤ 9 := by show 1 ≤ ((i + 1 : Nat) : Int) ∧ ((i + 1 : Nat) : Int) ≤ 9; omega
      rw [if_pos e9, eo, eo2, st, e4, hw]
      rfl
    · rw [if_pos he] at h; exact absurd h he
  · rw [if_pos hx] at h; exact absurd h hx
end Go.Proofs.Ytjdknijjkjmafaa
