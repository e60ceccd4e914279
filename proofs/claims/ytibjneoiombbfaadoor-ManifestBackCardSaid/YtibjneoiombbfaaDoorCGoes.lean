/-
  DERIVED. The laws' goes.
-/
import Derived.Test.YtibjneoiombbfaaDoorCUn2
import Derived.Test.YtibjneoiombbfaaDoorKPick
set_option linter.unusedVariables false
set_option linter.unusedSimpArgs false
namespace Go.Proofs.YtibjneoiombbfaaDoor
open Go.RowKit Go.Proofs.SealMath
/-- The runs that goes makes. -/
def goR : List Ru → Nat → Int → List Ru
  | [], _, _ => []
  | r :: rs, i, hi => ⟨1 + i, hi + r.lo % 1000, hi + r.lo % 1000 + 1 + r.hi % 1125899906842624, 1 + r.cnt % 2097152⟩ :: goR rs (i + 1) (hi + r.lo % 1000 + 1 + r.hi % 1125899906842624)
def goH : List Ru → Int → Int
  | [], hi => hi
  | r :: rs, hi => goH rs (hi + r.lo % 1000 + 1 + r.hi % 1125899906842624)
def goW (m : Mf) : Int := 64 * (1 + m.w % 16)
def goC (m : Mf) : Int := if 1 + m.md % 2 = 1 then goW m / 32 + m.ch % (goW m / 8 - goW m / 32 + 1) else 0
/-- The manifest that goes makes. -/
def goM (m : Mf) : Mf := ⟨goW m, goC m, 1 + m.md % 2, goH (m.rs.take 24) 0 + m.seq % 576460752303423488, (m.rs.take 24).length + 1 + m.jn % 1000 + 1 + m.nx % 549755813888, (m.rs.take 24).length + 1 + m.jn % 1000, goR (m.rs.take 24) 0 0⟩
theorem goR_len : ∀ (l : List Ru) (i : Nat) (h : Int), (goR l i h).length = l.length
  | [], _, _ => rfl
  | r :: l, i, h => by simp [goR, goR_len l]
theorem goH_bd : ∀ (l : List Ru) (h : Int), h ≤ goH l h ∧ goH l h ≤ h + l.length * 1125899906843650
  | [], h => by simp [goH]
  | r :: l, h => by
    have := goH_bd l (h + r.lo % 1000 + 1 + r.hi % 1125899906842624)
    simp only [goH, List.length_cons]
    push_cast
    omega
theorem goR_foll (seq : Int) : ∀ (l : List Ru) (i : Nat) (h b : Int), 0 ≤ b → b ≤ h → goH l h ≤ seq → foll seq b (goR l i h) = true
  | [], _, _, _, _, _, _ => rfl
  | r :: l, i, h, b, h0, hb, hs => by
    have hh := goH_bd l (h + r.lo % 1000 + 1 + r.hi % 1125899906842624)
    simp only [goH] at hs
    simp only [goR, foll, Bool.and_eq_true, decide_eq_true_eq]
    exact ⟨by omega, goR_foll seq l _ _ _ (by omega) (by omega) hs⟩
theorem goR_numd (nx : Int) : ∀ (l : List Ru) (i : Nat) (h : Int) (tk : List Int), (∀ t ∈ tk, t ≤ i ∨ (i : Int) + l.length < t) → (i : Int) + l.length ≤ nx - 1 → numd nx tk (goR l i h) = true
  | [], _, _, _, _, _ => rfl
  | r :: l, i, h, tk, ht, hn => by
    simp only [List.length_cons] at ht hn
    push_cast at ht hn
    simp only [goR, numd, Bool.and_eq_true, decide_eq_true_eq]
    refine ⟨⟨fun hm => ?_, by omega, by omega⟩, goR_numd nx l (i + 1) _ _ (fun t htm => ?_) (by push_cast; omega)⟩
    · have := ht _ hm; omega
    · push_cast
      rcases List.mem_cons.1 htm with rfl | htm
      · left; omega
      · have := ht t htm; omega
theorem goM_ok (m : Mf) : chE (goM m) = 0 := by
  have hl : (m.rs.take 24).length ≤ 24 := by rw [List.length_take]; omega
  have hh := goH_bd (m.rs.take 24) 0
  have hw : 64 ≤ goW m ∧ goW m ≤ 1024 ∧ goW m % 64 = 0 := by unfold goW; omega
  have h1 : wdB (goW m) = true := decide_eq_true hw
  have h2 : mdB (1 + m.md % 2) = true := decide_eq_true (by omega)
  have h3 : ctB (goW m) (goC m) (1 + m.md % 2) = true := by
    unfold ctB goC
    by_cases hm : 1 + m.md % 2 = 2
    · rw [if_pos hm, if_neg (by omega)]; rfl
    · rw [if_neg hm, if_pos (by omega)]
      have hd : 0 < goW m / 8 - goW m / 32 + 1 := by omega
      have a := Int.emod_nonneg m.ch (show goW m / 8 - goW m / 32 + 1 ≠ 0 by omega)
      have b := Int.emod_lt_of_pos m.ch hd
      exact decide_eq_true (by omega)
  have h4 : nbB (goM m) = true := by
    unfold nbB goM
    simp only [goR_len, Bool.and_eq_true, decide_eq_true_eq]
    omega
  have h5 : numd (goM m).nx [(goM m).jn] (goM m).rs = true := by
    unfold goM
    refine goR_numd _ _ 0 0 _ (fun t ht => ?_) (by simp only; push_cast; omega)
    simp only [List.mem_singleton] at ht
    right; rw [ht]; push_cast; omega
  have h6 : foll (goM m).seq 0 (goM m).rs = true := goR_foll _ _ 0 0 0 (by omega) (by omega) (by simp only [goM]; omega)
  unfold chE
  rw [show (goM m).w = goW m from rfl, show (goM m).md = 1 + m.md % 2 from rfl, show (goM m).ch = goC m from rfl, h1, h2, h3, h4, h5, h6]
  rfl
end Go.Proofs.YtibjneoiombbfaaDoor
