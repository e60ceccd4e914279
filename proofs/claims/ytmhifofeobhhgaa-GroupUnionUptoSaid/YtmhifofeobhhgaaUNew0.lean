/-
  DERIVED. What New comes to.
-/
import Derived.Test.YtmhifofeobhhgaaUApp
set_option linter.unusedVariables false
set_option linter.unusedSimpArgs false
namespace Go.Proofs.Ytmhifofeobhhgaa
open Go.RowKit Go.Proofs.UnionMath
/-- The refusal, or none, and the ids in their order. -/
def nwE (S : List Int) : List Int → Int × List Int
  | [] => (0, S)
  | x :: l => if x < 0 ∨ 281474976710656 < x then (60, []) else if x ∈ S then (130, []) else nwE (insN S x) l
theorem insN_len (S : List Int) (x : Int) : (insN S x).length = S.length + 1 := by
  have := plN_le S x
  unfold insN
  simp only [List.length_append, List.length_take, List.length_drop, List.length_singleton]
  omega
theorem nwE_id {S l : List Int} {x : Int} (h : x < 0 ∨ 281474976710656 < x) : nwE S (x :: l) = (60, []) := by rw [nwE, if_pos h]
theorem nwE_two {S l : List Int} {x : Int} (h : ¬ (x < 0 ∨ 281474976710656 < x)) (k : x ∈ S) : nwE S (x :: l) = (130, []) := by rw [nwE, if_neg h, if_pos k]
theorem nwE_on {S l : List Int} {x : Int} (h : ¬ (x < 0 ∨ 281474976710656 < x)) (k : x ∉ S) : nwE S (x :: l) = nwE (insN S x) l := by rw [nwE, if_neg h, if_neg k]
theorem nwE_ok : ∀ (l S T : List Int), S.Pairwise (· < ·) → (∀ z ∈ S, 0 ≤ z ∧ z ≤ 281474976710656) → nwE S l = (0, T) → T.Pairwise (· < ·) ∧ (∀ z ∈ T, 0 ≤ z ∧ z ≤ 281474976710656) ∧ (∀ z, z ∈ T ↔ z ∈ S ∨ z ∈ l) ∧ T.length = S.length + l.length
  | [], S, T, hS, hb, h => by
    rw [nwE] at h
    injection h with _ h
    subst h
    exact ⟨hS, hb, fun z => by simp, by simp⟩
  | x :: l, S, T, hS, hb, h => by
    by_cases h1 : x < 0 ∨ 281474976710656 < x
    · rw [nwE_id h1] at h; injection h with h _; cases h
    · by_cases h2 : x ∈ S
      · rw [nwE_two h1 h2] at h; injection h with h _; cases h
      · rw [nwE_on h1 h2] at h
        obtain ⟨r1, r2, r3, r4⟩ := nwE_ok l (insN S x) T (insN_up hS h2) (fun z hz => by
          rcases (insN_mem S x z).1 hz with q | q
          · omega
          · exact hb z q) h
        refine ⟨r1, r2, fun z => ?_, by rw [r4, insN_len, List.length_cons]; omega⟩
        rw [r3, insN_mem, List.mem_cons]
        constructor
        · rintro ((q | q) | q)
          · exact .inr (.inl q)
          · exact .inl q
          · exact .inr (.inr q)
        · rintro (q | q | q)
          · exact .inl (.inr q)
          · exact .inl (.inl q)
          · exact .inr q
/-- What it comes to is one of three. -/
theorem nwE_is : ∀ (l S : List Int), (∃ T, nwE S l = (0, T)) ∨ nwE S l = (60, []) ∨ nwE S l = (130, [])
  | [], S => .inl ⟨S, rfl⟩
  | x :: l, S => by
    by_cases h1 : x < 0 ∨ 281474976710656 < x
    · exact .inr (.inl (nwE_id h1))
    · by_cases h2 : x ∈ S
      · exact .inr (.inr (nwE_two h1 h2))
      · rw [nwE_on h1 h2]; exact nwE_is l (insN S x)
/-- The place, found step by step. -/
theorem plN_eq : ∀ (S : List Int) (x : Int) (k : Nat), k ≤ S.length → (∀ j (h : j < S.length), j < k → S[j] < x) → (∀ h : k < S.length, ¬ S[k] < x) → plN S x = k
  | [], x, k, hk, _, _ => by
    have : k = 0 := by simpa using hk
    subst this; rfl
  | a :: S, x, 0, hk, _, h2 => by
    have := h2 (by simp)
    have h : ¬ a < x := this
    unfold plN
    rw [List.takeWhile_cons, if_neg (by simpa using h)]; rfl
  | a :: S, x, k + 1, hk, h1, h2 => by
    have ha : a < x := h1 0 (by simp) (by omega)
    have := plN_eq S x k (by simpa using hk) (fun j h hj => by
      have := h1 (j + 1) (by simpa using h) (by omega)
      simpa using this) (fun h => by
      have := h2 (by simpa using h)
      simpa using this)
    unfold plN at this ⊢
    rw [List.takeWhile_cons, if_pos (by simpa using ha), List.length_cons, this]
/-- Each is alone at first. -/
theorem lL_id (S : List Int) : lL S (fun k => k) = S := by
  unfold lL
  apply List.ext_getElem
  · simp
  · intro i h1 h2
    simp [List.getD, h2]
theorem up_id (n : Nat) : Up n (fun k => k) (fun k => k) := by
  constructor <;> intros <;> simp_all
end Go.Proofs.Ytmhifofeobhhgaa
