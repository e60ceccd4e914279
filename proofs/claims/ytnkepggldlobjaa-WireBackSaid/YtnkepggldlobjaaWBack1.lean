/-
  DERIVED. Whole messages: there and back; a byte more, a byte less.
-/
import Derived.Test.YtnkepggldlobjaaWBack0
set_option linter.unusedVariables false
set_option linter.unusedSimpArgs false
namespace Go.Proofs.Ytnkepggldlobjaa
open Go.RowKit Go.Proofs.SealMath
theorem hd_of (c i : Nat) (hc : c < 256) (hi : i < 9) (l : List UInt8) : hdX c ⟨(UInt8.ofNat c :: UInt8.ofNat (i + 1) :: l).toArray⟩ = (0, i) := by
  have e0 : (UInt8.ofNat c).toNat = c := by rw [UInt8.toNat_ofNat']; omega
  have e1 : (UInt8.ofNat (i + 1)).toNat = i + 1 := by rw [UInt8.toNat_ofNat']; omega
  have sz : (⟨(UInt8.ofNat c :: UInt8.ofNat (i + 1) :: l).toArray⟩ : ByteArray).size = l.length + 2 := by rw [tsz]; rfl
  have g0 : ∀ h, (⟨(UInt8.ofNat c :: UInt8.ofNat (i + 1) :: l).toArray⟩ : ByteArray)[0]'h = UInt8.ofNat c := fun _ => rfl
  have g1 : ∀ h, (⟨(UInt8.ofNat c :: UInt8.ofNat (i + 1) :: l).toArray⟩ : ByteArray)[1]'h = UInt8.ofNat (i + 1) := fun _ => rfl
  unfold hdX
  rw [dif_neg (by omega)]
  simp only [g0, g1, e0, e1]
  rw [if_neg (fun h => h rfl), dif_neg (by omega), if_pos (by omega)]
  rfl
theorem hd_short (c i : Nat) (hc : c < 256) : hdX c ⟨[UInt8.ofNat c].toArray⟩ = (31, 0) := by
  have e0 : (UInt8.ofNat c).toNat = c := by rw [UInt8.toNat_ofNat']; omega
  have sz : (⟨[UInt8.ofNat c].toArray⟩ : ByteArray).size = 1 := rfl
  have g0 : ∀ h, (⟨[UInt8.ofNat c].toArray⟩ : ByteArray)[0]'h = UInt8.ofNat c := fun _ => rfl
  unfold hdX
  rw [dif_neg (by omega)]
  simp only [g0, e0]
  rw [if_neg (fun h => h rfl), dif_pos sz]
theorem sub_msg (x y : UInt8) (A B : List UInt8) : sub ⟨(x :: y :: (A ++ B)).toArray⟩ 2 A.length = A := by
  unfold sub
  simp
theorem sub_cutm (x y : UInt8) (A : List UInt8) (n : Nat) (hn : n ≤ A.length) : sub ⟨(x :: y :: A.take n).toArray⟩ 2 n = A.take n := by
  unfold sub
  simp [List.take_take]
theorem ask_ok (q : Rq) (hW : RqW q) (h : (askA q).2 = 0) : ∃ i, i < 9 ∧ q.op = (i + 1 : Nat) ∧ VQ i q ∧ clQ i q = ⟨q.op, 0, eB, 0, 0⟩ ∧ (askA q).1 = UInt8.ofNat 81 :: UInt8.ofNat (i + 1) :: wrQ i q := by
  unfold askA at h ⊢
  by_cases h9 : 1 ≤ q.op ∧ q.op ≤ 9
  · rw [if_pos h9] at h ⊢
    obtain ⟨i, hi, hop⟩ : ∃ i : Nat, i < 9 ∧ q.op = (i + 1 : Nat) := ⟨q.op.toNat - 1, by omega, by omega⟩
    have e : q.op.toNat = i + 1 := by omega
    rw [e, Nat.add_sub_cancel] at h ⊢
    cases hst : stQ i q with
    | true => rw [hst] at h; simp at h
    | false =>
      rw [hst] at h
      simp only [Bool.false_eq_true, if_false] at h ⊢
      by_cases hk : ckE (ckQ i q).1 (ckQ i q).2 0 = 0
      · rw [if_neg (fun g => g hk)]
        have hck : ckQ i q = (false, false) := by
          rcases hq : ckQ i q with ⟨a, b⟩
          rw [hq] at hk
          cases a <;> cases b <;> simp [ckE] at hk ⊢
        have hcl : clQ i q = ⟨q.op, 0, eB, 0, 0⟩ := by
          unfold stQ at hst
          have h1 : rqE (clQ i q) ⟨((i + 1 : Nat) : Int), 0, eB, 0, 0⟩ = true := by simpa using hst
          rw [hop]
          exact (rqE_iff _ _).1 h1
        exact ⟨i, hi, hop, ⟨hck, hW.id, hW.k, hW.r⟩, hcl, rfl⟩
      · rw [if_pos hk] at h; exact absurd h hk
  · rw [if_neg h9] at h; simp at h
/-- What Ask wrote, Asked reads; a byte more is told, a byte less. -/
theorem asked_back (q : Rq) (hW : RqW q) (h : (askA q).2 = 0) :
    (∃ m f, askedA ⟨(askA q).1.toArray⟩ = (m, f, 0) ∧ fsQ m f = q) ∧ (∀ x l, askedA ⟨((askA q).1 ++ x :: l).toArray⟩ = (0, zFs, 37)) ∧ askedA ⟨(askA q).1.dropLast.toArray⟩ = (0, zFs, 31) := by
  obtain ⟨i, hi, hop, hv, hcl, hA⟩ := ask_ok q hW h
  rw [hA]
  have key : ∀ E : List UInt8, ∃ f, rdQ i ⟨(UInt8.ofNat 81 :: UInt8.ofNat (i + 1) :: (wrQ i q ++ E)).toArray⟩ (2, 0) = (f, (2 + (wrQ i q).length, 0)) ∧ (⟨q.op, f.id, ⟨f.c.toArray⟩, f.k, f.r⟩ : Rq) = q := fun E =>
    rdQ_wr i q _ (by rw [tsz]; simp) hv hcl (sub_msg _ _ _ _)
  refine ⟨?_, fun x l => ?_, ?_⟩
  · obtain ⟨f, h1, h2⟩ := key []
    rw [List.append_nil] at h1
    refine ⟨i + 1, f, ?_, ?_⟩
    · unfold askedA
      rw [hd_of 81 i (by omega) hi]
      simp only
      rw [if_neg (fun g => g rfl), h1]
      have he : endE ⟨(UInt8.ofNat 81 :: UInt8.ofNat (i + 1) :: wrQ i q).toArray⟩ (2 + (wrQ i q).length, 0) = 0 := by
        unfold endE; rw [if_neg (by rw [tsz]; simp; omega)]
      simp only [he]
      rw [if_neg (fun g => g rfl)]
    · show (⟨((i + 1 : Nat) : Int), f.id, ⟨f.c.toArray⟩, f.k, f.r⟩ : Rq) = q
      rw [← hop]; exact h2
  · obtain ⟨f, h1, h2⟩ := key (x :: l)
    rw [List.cons_append, List.cons_append]
    unfold askedA
    rw [hd_of 81 i (by omega) hi]
    simp only
    rw [if_neg (fun g => g rfl), h1]
    have he : endE ⟨(UInt8.ofNat 81 :: UInt8.ofNat (i + 1) :: (wrQ i q ++ x :: l)).toArray⟩ (2 + (wrQ i q).length, 0) = 37 := by
      unfold endE; rw [if_pos ⟨rfl, by rw [tsz]; simp; omega⟩]
    simp only [he]
    rw [if_pos (by decide)]
  · by_cases h0 : wrQ i q = []
    · rw [h0]
      unfold askedA
      have : [UInt8.ofNat 81, UInt8.ofNat (i + 1)].dropLast = [UInt8.ofNat 81] := rfl
      rw [this, hd_short 81 i (by omega)]
      rw [if_pos (by decide)]
    · have hl : 0 < (wrQ i q).length := List.length_pos_iff.2 h0
      have e : (UInt8.ofNat 81 :: UInt8.ofNat (i + 1) :: wrQ i q).dropLast = UInt8.ofNat 81 :: UInt8.ofNat (i + 1) :: (wrQ i q).take ((wrQ i q).length - 1) := by
        rw [List.dropLast_cons_of_ne_nil (by simp), List.dropLast_cons_of_ne_nil h0, List.dropLast_eq_take]
      rw [e]
      have hc := rdQ_cut i q ⟨(UInt8.ofNat 81 :: UInt8.ofNat (i + 1) :: (wrQ i q).take ((wrQ i q).length - 1)).toArray⟩ hv ((wrQ i q).length - 1) (by omega) (by rw [tsz]; simp; omega) (by rw [sub_cutm _ _ _ _ (by omega)])
      unfold askedA
      rw [hd_of 81 i (by omega) hi]
      simp only
      rw [if_neg (fun g => g rfl)]
      have he : endE ⟨(UInt8.ofNat 81 :: UInt8.ofNat (i + 1) :: (wrQ i q).take ((wrQ i q).length - 1)).toArray⟩ (rdQ i ⟨(UInt8.ofNat 81 :: UInt8.ofNat (i + 1) :: (wrQ i q).take ((wrQ i q).length - 1)).toArray⟩ (2, 0)).2 = 31 := by
        unfold endE; rw [if_neg (fun g => by rw [hc] at g; simp at g), hc]
      simp only [he]
      rw [if_pos (by decide)]
end Go.Proofs.Ytnkepggldlobjaa
