/-
  DERIVED. A payload in the document's way: seven numbers, then four of each run.
-/
import Derived.Test.YtejpakejfikkmaaDoorCSev
set_option linter.unusedVariables false
set_option linter.unusedSimpArgs false
namespace Go.Proofs.YtejpakejfikkmaaDoor
open Go.RowKit Go.Proofs.SealMath
/-- n numbers, then more. -/
theorem rd_add (p : ByteArray) (m n2 : Nat) : ∀ (n1 a : Nat), rd p m (n1 + n2) a = match rd p m n1 a with
    | .error e => .error e
    | .ok z => (rd p m n2 z.2).map fun y => (z.1 ++ y.1, y.2)
  | 0, a => by
    rw [Nat.zero_add]
    simp only [rd]
    cases rd p m n2 a <;> simp [Except.map]
  | n1 + 1, a => by
    rw [show n1 + 1 + n2 = (n1 + n2) + 1 by omega, rd, rd]
    by_cases h1 : (vA p a).2.2 ≠ 0
    · rw [if_pos h1, if_pos h1]
    · rw [if_neg h1, if_neg h1]
      by_cases h2 : m < (vA p a).1
      · rw [if_pos h2, if_pos h2]
      · rw [if_neg h2, if_neg h2, rd_add p m n2 n1 _]
        cases rd p m n1 (vA p a).2.1 with
        | error e => rfl
        | ok z =>
          simp only [Except.map]
          cases rd p m n2 z.2 <;> simp
/-- Four numbers a run. -/
def grp : Nat → List Nat → List Ru
  | 0, _ => []
  | k + 1, l => ruOf (l.take 4) :: grp k (l.drop 4)
theorem grp_len : ∀ (k : Nat) (l : List Nat), (grp k l).length = k
  | 0, _ => rfl
  | k + 1, l => by rw [grp, List.length_cons, grp_len k]
theorem rdRs_eq (p : ByteArray) : ∀ (k a : Nat), rdRs p k a = (rd p MX (4 * k) a).map fun z => (grp k z.1, z.2)
  | 0, a => by simp [rdRs, rd, grp, Except.map]
  | k + 1, a => by
    rw [rdRs, show 4 * (k + 1) = 4 + 4 * k by omega, rd_add]
    cases h4 : rd p MX 4 a with
    | error e => rfl
    | ok z =>
      obtain ⟨l, a'⟩ := z
      simp only
      rw [rdRs_eq p k a']
      have hl : l.length = 4 := (rd_len h4).1
      cases rd p MX (4 * k) a' with
      | error e => rfl
      | ok y =>
        simp only [Except.map, grp]
        rw [List.take_append_of_le_length (by omega), List.take_of_length_le (by omega), List.drop_append_of_le_length (by omega), List.drop_of_length_le (by omega), List.nil_append]
/-- What a payload says, in the document's way. -/
def unD (p : ByteArray) : Except Int Mf :=
  match rd p MX 7 0 with
  | .error e => .error e
  | .ok h => if 24 < h.1.getD 6 0 then .error 80 else match rd p MX (4 * h.1.getD 6 0) h.2 with
    | .error e => .error e
    | .ok z => if z.2 = p.size then .ok (mfOf h.1 (grp (h.1.getD 6 0) z.1)) else .error 37
theorem rd_one (p : ByteArray) (m a : Nat) : rd p m 1 a = if (vA p a).2.2 ≠ 0 then .error (vA p a).2.2 else if m < (vA p a).1 then .error 80 else .ok ([(vA p a).1], (vA p a).2.1) := by
  rw [rd]
  split
  · rfl
  · split
    · rfl
    · simp [rd, Except.map]
theorem unP_unD (p : ByteArray) : unP p = unD p := by
  unfold unP unD
  rw [show (7 : Nat) = 6 + 1 from rfl, rd_add]
  cases h6 : rd p MX 6 0 with
  | error e => rfl
  | ok z =>
    obtain ⟨h, a1⟩ := z
    have hl : h.length = 6 := (rd_len h6).1
    simp only
    rw [rd_one, rd_one]
    obtain ⟨V, N, E, hv⟩ : ∃ V N E, vA p a1 = (V, N, E) := ⟨_, _, _, rfl⟩
    rw [hv]
    simp only
    by_cases hE : E ≠ 0
    · rw [if_pos hE, if_pos hE]; rfl
    · rw [if_neg hE, if_neg hE]
      by_cases h24 : 24 < V
      · rw [if_pos h24]
        by_cases hm : MX < V
        · rw [if_pos hm]; rfl
        · rw [if_neg hm]
          have e6 : (h ++ [V]).getD 6 0 = V := by rw [List.getD_eq_getElem?_getD, List.getElem?_append_right (by omega), hl]; rfl
          simp only [Except.map, e6]
          rw [if_pos h24]
      · rw [if_neg h24, if_neg (show ¬ MX < V by unfold MX; omega)]
        have e6 : (h ++ [V]).getD 6 0 = V := by rw [List.getD_eq_getElem?_getD, List.getElem?_append_right (by omega), hl]; rfl
        have e7 : ([V] : List Nat).getD 0 0 = V := rfl
        simp only [Except.map, e6, e7]
        rw [if_neg h24, rdRs_eq]
        have em : ∀ rs, mfOf (h ++ [V]) rs = mfOf h rs := fun rs => by
          have g : ∀ i, i < 6 → (h ++ [V]).getD i 0 = h.getD i 0 := fun i hi => by
            rw [List.getD_eq_getElem?_getD, List.getD_eq_getElem?_getD, List.getElem?_append_left (by omega)]
          unfold mfOf
          rw [g 0 (by omega), g 1 (by omega), g 2 (by omega), g 3 (by omega), g 4 (by omega), g 5 (by omega)]
        cases rd p MX (4 * V) N with
        | error e => rfl
        | ok y =>
          simp only [Except.map, em]
end Go.Proofs.YtejpakejfikkmaaDoor
