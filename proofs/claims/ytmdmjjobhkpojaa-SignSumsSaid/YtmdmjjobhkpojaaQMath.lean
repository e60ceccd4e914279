/-
  DERIVED. sign: sums, as whole numbers; the complex ones stand for them.
-/
import Derived.Test.YtmdmjjobhkpojaaQIter
import Derived.Test.YtmdmjjobhkpojaaHeldL
set_option linter.unusedVariables false
set_option linter.unusedSimpArgs false
namespace Go.Proofs.Ytmdmjjobhkpojaa
open Go.RowKit Go.Shelf Go.Proofs.BitMath Go.Proofs.FloatMath
/-- A part times a unit. -/
def cm (p : Zp) (u : Int) : Zp := if (u == 0) = true then p else if (u == 1) = true then (-p.2, p.1) else if (u == 2) = true then (-p.1, -p.2) else (p.2, -p.1)
def addZ (a b : Zp) : Zp := (a.1 + b.1, a.2 + b.2)
/-- The sum over the first places. -/
def sumZ (sd : Int) (jj : Nat) (v : List Zp) : Nat → Zp
  | 0 => (0, 0)
  | k + 1 => addZ (sumZ sd jj v k) (cm (v.getD k (0, 0)) (uq sd (1024 * (jj : Int) + k + 1)))
def bdZ (B : Nat) (p : Zp) : Prop := p.1.natAbs ≤ B ∧ p.2.natAbs ≤ B
theorem cm_bd {B : Nat} {p : Zp} (h : bdZ B p) (u : Int) : bdZ B (cm p u) := by
  obtain ⟨h1, h2⟩ := h
  unfold cm bdZ
  split
  · exact ⟨h1, h2⟩
  · split
    · exact ⟨by simpa using h2, h1⟩
    · split
      · exact ⟨by simpa using h1, by simpa using h2⟩
      · exact ⟨h2, by simpa using h1⟩
theorem okP_bd {p : Zp} (h : okP p = true) : bdZ 1048576 p := by
  simp only [okP, Bool.and_eq_true] at h
  have h1 := isBd_in h.1
  have h2 := isBd_in h.2
  exact ⟨by omega, by omega⟩
theorem getD_at {v : List Zp} {k : Nat} (hk : k < v.length) : v.getD k (0, 0) = v[k] := by rw [List.getD_eq_getElem?_getD, List.getElem?_eq_getElem hk]; rfl
theorem getD_bd {v : List Zp} (h : v.all okP = true) (k : Nat) : bdZ 1048576 (v.getD k (0, 0)) := by
  rcases Nat.lt_or_ge k v.length with hk | hk
  · rw [getD_at hk]
    exact okP_bd (List.all_eq_true.1 h _ (List.getElem_mem hk))
  · rw [List.getD_eq_getElem?_getD, List.getElem?_eq_none hk]; exact ⟨by simp, by simp⟩
theorem sumZ_bd {sd : Int} {jj : Nat} {v : List Zp} (h : v.all okP = true) : ∀ k, bdZ (k * 1048576) (sumZ sd jj v k)
  | 0 => ⟨by simp [sumZ], by simp [sumZ]⟩
  | k + 1 => by
    have h1 := sumZ_bd (sd := sd) (jj := jj) h k
    have h2 := cm_bd (getD_bd h k) (uq sd (1024 * (jj : Int) + k + 1))
    unfold bdZ at *
    simp only [sumZ, addZ]
    generalize sumZ sd jj v k = a at *
    generalize cm (v.getD k (0, 0)) (uq sd (1024 * (jj : Int) + k + 1)) = b at *
    omega
/-- A unit times a part, in bits. -/
theorem unit_mul {p : Zp} (hp : bdZ 1048576 p) (u : Int) {a b : Nat} (h : CI a b p.1 p.2) : ∃ x y r s, uV u = .complex .f64 x y ∧ cMulBits a b x y = some (r, s) ∧ CI r s (cm p u).1 (cm p u).2 := by
  obtain ⟨h1, h2⟩ := hp
  have key : ∀ (x y : Nat) (c d : Int), CI x y c d → c.natAbs ≤ 1 → d.natAbs ≤ 1 → (c = 0 ∨ d = 0) → uV u = .complex .f64 x y → cm p u = (p.1 * c - p.2 * d, p.1 * d + p.2 * c) → ∃ x y r s, uV u = .complex .f64 x y ∧ cMulBits a b x y = some (r, s) ∧ CI r s (cm p u).1 (cm p u).2 := by
    intro x y c d hc hc1 hd1 h0 hU hcm
    have e : (c = 0 ∨ c = 1 ∨ c = -1) ∧ (d = 0 ∨ d = 1 ∨ d = -1) := by omega
    obtain ⟨r, s, k1, k2⟩ := CI.mul h hc (by rcases e.1 with rfl | rfl | rfl <;> simp <;> omega) (by rcases e.2 with rfl | rfl | rfl <;> simp <;> omega) (by rcases e.2 with rfl | rfl | rfl <;> simp <;> omega) (by rcases e.1 with rfl | rfl | rfl <;> simp <;> omega)
      (by rcases e.1 with rfl | rfl | rfl <;> rcases e.2 with rfl | rfl | rfl <;> simp <;> omega) (by rcases e.1 with rfl | rfl | rfl <;> rcases e.2 with rfl | rfl | rfl <;> simp <;> omega)
    exact ⟨x, y, r, s, hU, k1, by rw [hcm]; exact k2⟩
  cases e0 : (u == 0)
  · cases e1 : (u == 1)
    · cases e2 : (u == 2)
      · exact key _ _ 0 (-1) ⟨fi_zero, fi_neg⟩ (by decide) (by decide) (.inl rfl) (uV3 e0 e1 e2) (by simp [cm, e0, e1, e2])
      · exact key _ _ (-1) 0 ⟨fi_neg, fi_zero⟩ (by decide) (by decide) (.inr rfl) (uV2 e0 e1 e2) (by simp [cm, e0, e1, e2])
    · exact key _ _ 0 1 ⟨fi_zero, fi_one⟩ (by decide) (by decide) (.inl rfl) (uV1 e0 e1) (by simp [cm, e0, e1])
  · exact key _ _ 1 0 ⟨fi_one, fi_zero⟩ (by decide) (by decide) (.inr rfl) (uV0 e0) (by simp [cm, e0])
end Go.Proofs.Ytmdmjjobhkpojaa
