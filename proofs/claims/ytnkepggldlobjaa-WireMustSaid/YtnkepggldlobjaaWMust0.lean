/-
  DERIVED. WireMust: what goes is written: the mathematics.
-/
import Derived.Test.YtnkepggldlobjaaWBeg
set_option linter.unusedVariables false
set_option linter.unusedSimpArgs false
namespace Go.Proofs.Ytnkepggldlobjaa
open Go.RowKit Go.Proofs.SealMath
theorem pvL_pos (k n : Nat) : 1 ≤ (pvL k n).length := by
  cases k with
  | zero => simp [pvL]
  | succ k => unfold pvL; split <;> simp
theorem must_ask (i : Nat) (hi : i < 9) (q : Rq) (hop : q.op = (i + 1 : Nat)) (hst : stQ i q = false) (hck : ckQ i q = (false, false)) : ∃ S, 2 ≤ S.length ∧ askA q = (S, 0) := by
  refine ⟨[81, UInt8.ofNat q.op.toNat] ++ wrQ i q, by simp, ?_⟩
  unfold askA
  have e : q.op.toNat - 1 = i := by omega
  rw [if_pos (by omega), e, hst, hck]
  simp [ckE]
theorem must_tell (i : Nat) (hi : i < 9) (r : Rp) (L : List Ht) (he : 0 ≤ r.e ∧ r.e ≤ 999) (hst : stP i r L.length = false) (hck : ckR i r L = (false, false, 0)) : ∃ T, 3 ≤ T.length ∧ tellA (i + 1 : Nat) r L = (T, 0) := by
  refine ⟨[82, UInt8.ofNat (i + 1)] ++ (wrN r.e ++ wrR i r L), ?_, ?_⟩
  · have : 1 ≤ (wrN r.e).length := pvL_pos 9 r.e.toNat
    simp only [List.length_append, List.length_cons, List.length_nil]
    omega
  · unfold tellA
    have e : ((i + 1 : Nat) : Int).toNat = i + 1 := by omega
    rw [if_pos (by omega), if_neg (by omega), e, Nat.add_sub_cancel, hst, hck]
    simp [ckE]
/-- The hits that the law makes. -/
structure MHs (L : List Ht) : Prop where
  few : L.length ≤ 1000
  each : ∀ i (h : i < L.length), L[i].d = ((i / 3 : Nat) : Int) ∧ L[i].i = (i : Int) ∧ L[i].c.size ≤ 200
theorem MHs.hk {L : List Ht} (h : MHs L) (i : Nat) (hi : i < L.length) : hkE L[i] = 0 := by
  obtain ⟨h1, h2, h3⟩ := h.each i hi
  unfold hkE ckE
  rw [h1, h2]
  rw [show decide (((i / 3 : Nat) : Int) < 0) = false from by simp; omega, show decide ((i : Int) < 0) = false from by simp, show decide (65536 < L[i].c.size) = false from by simp; omega]
  rfl
theorem MHs.gs {L : List Ht} (h : MHs L) : ∀ k i, i + k = L.length → gsE (prv L i) (L.drop i) = 0
  | 0, i, e => by
    have : i = L.length := by omega
    rw [this]; exact gsE_end L
  | k + 1, i, e => by
    have ih := MHs.gs h k (i + 1) (by omega)
    cases i with
    | zero => rw [gsE_first L (by omega) (h.hk 0 (by omega))]; exact ih
    | succ i =>
      rw [gsE_next L i (by omega) (h.hk (i + 1) (by omega)) ?_]
      · exact ih
      · obtain ⟨a1, a2, a3⟩ := h.each i (by omega)
        obtain ⟨b1, b2, b3⟩ := h.each (i + 1) (by omega)
        unfold flB
        rw [a1, a2, b1, b2]
        by_cases g : i / 3 < (i + 1) / 3
        · rw [show decide (((i / 3 : Nat) : Int) < (((i + 1) / 3 : Nat) : Int)) = true from by simp; omega]; rfl
        · have g' : (i + 1) / 3 = i / 3 := by omega
          rw [g']
          simp
          omega
theorem MHs.gl {L : List Ht} (h : MHs L) : glE L = 0 := by
  unfold glE
  have := h.few
  rw [if_neg (by omega)]
  have := h.gs L.length 0 (by omega)
  simpa [prv] using this
theorem MHs.nil : MHs [] := ⟨by simp, fun i h => by simp at h⟩
theorem MHs.snoc {L : List Ht} (h : MHs L) (c : ByteArray) (hc : c.size ≤ 200) (hl : L.length < 1000) (d n : Int) (hd : d = ((L.length / 3 : Nat) : Int)) (hn : n = (L.length : Int)) : MHs (L ++ [⟨d, n, c⟩]) := by
  refine ⟨by simp; omega, fun i hi => ?_⟩
  rcases Nat.lt_or_ge i L.length with g | g
  · rw [List.getElem_append_left g]; exact h.each i g
  · have : i = L.length := by simp at hi; omega
    subst this
    simp [hd, hn, hc]
theorem MHs.hw {L : List Ht} (h : MHs L) : HtsW L := fun x hx => by
  obtain ⟨i, hi, rfl⟩ := List.mem_iff_getElem.1 hx
  obtain ⟨h1, h2, h3⟩ := h.each i hi
  have := h.few
  rw [h1, h2]
  constructor <;> omega
end Go.Proofs.Ytnkepggldlobjaa
