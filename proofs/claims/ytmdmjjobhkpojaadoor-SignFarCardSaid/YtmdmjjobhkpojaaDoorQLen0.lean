/-
  DERIVED. sign: signed in few words; bits.
-/
import Derived.Test.YtmdmjjobhkpojaaDoorQLin
import Derived.Test.YtmdmjjobhkpojaaDoorQBit
set_option linter.unusedVariables false
set_option linter.unusedSimpArgs false
namespace Go.Proofs.YtmdmjjobhkpojaaDoor
open Go.RowKit Go.Shelf Go.Proofs.BitMath Go.Proofs.FloatMath
/-- What stands behind a call that made a row. -/
theorem newz_open {w : World} {X : List Zp} {e : Ending} {w' : World} (h : NewZ w X e w') : ∃ a c, e = .returned (.slice a X.length c) ∧ zE.At w' a X ∧ Below w.heap.size w w' := by
  obtain ⟨o, rfl, hr, -, hb⟩ := h
  obtain ⟨a, c, rfl, hA⟩ := hr.lat
  exact ⟨a, c, rfl, hA, hb⟩
theorem b01_neg {a b : Int} (h : a ≠ 0) (hb : b = -a) : b01 (decide (0 < b)) = 1 - b01 (decide (0 < a)) := by
  subst hb
  unfold b01
  by_cases h1 : 0 < a
  · have h2 : ¬ 0 < -a := by omega
    rw [decide_eq_true h1, decide_eq_false h2]; rfl
  · have h2 : 0 < -a := by omega
    rw [decide_eq_false h1, decide_eq_true h2]; rfl
/-- The bits of a vector's code, of its negative's and of what is turned, where no part of the sum is 0. -/
theorem three_bits (wd : Nat) (sd : Int) (v : List Zp) (hw : wd % 8 = 0) (j : Nat) (hj : j < wd / 2) (P : Zp) (hP : sumZ sd j v v.length = P) (h1 : P.1 ≠ 0) (h2 : P.2 ≠ 0) :
    ∃ A B : Nat, A ≤ 1 ∧ B ≤ 1 ∧ bitL (cdS wd sd v).data.toList (2 * j) = A ∧ bitL (cdS wd sd v).data.toList (2 * j + 1) = B ∧ bitL (cdS wd sd (v.map (mulZ (-1)))).data.toList (2 * j) = 1 - A ∧ bitL (cdS wd sd (v.map (mulZ (-1)))).data.toList (2 * j + 1) = 1 - B ∧
      bitL (cdS wd sd (v.map trnZ)).data.toList (2 * j) = 1 - B ∧ bitL (cdS wd sd (v.map trnZ)).data.toList (2 * j + 1) = A := by
  have e1 := cd_bit wd sd v hw j hj
  have e2 := cd_bit wd sd (v.map (mulZ (-1))) hw j hj
  have e3 := cd_bit wd sd (v.map trnZ) hw j hj
  rw [List.length_map, sumZ_map (mulZ (-1)) (by simp [mulZ]) (mul_add (-1)) (cm_mul (-1)), hP] at e2
  rw [List.length_map, sumZ_map trnZ (by simp [trnZ]) trn_add cm_trn, hP] at e3
  rw [hP] at e1
  refine ⟨_, _, b01_le _, b01_le _, e1.1, e1.2, ?_, ?_, ?_, ?_⟩
  · rw [e2.1]; exact b01_neg h1 (by simp only [mulZ]; omega)
  · rw [e2.2]; exact b01_neg h2 (by simp only [mulZ]; omega)
  · rw [e3.1]; exact b01_neg h2 (by simp only [trnZ])
  · rw [e3.2]; rfl
/-- signed, in few words. -/
def SgdQ (m : Nat) (C : ByteArray) (S : List Zp) (w : World) (e : Ending) (w' : World) : Prop := ∃ s g cap, e = .returned (.tuple #[Pt s, .slice (some ⟨g, 0, none⟩) m cap, .string C, .bool true]) ∧ zE.Row w' (.slice (some ⟨g, 0, none⟩) m cap) S ∧ Below w.heap.size w w'
theorem sgdq {wd m : Nat} {sd : Int} {v : List Zp} {C : ByteArray} {S : List Zp} {w : World} (em : wd / 2 = m) (eC : cdS wd sd v = C) (eS : sumsL wd sd v = S) {p : Nat} {args : Array Value} (h : Calls Tryd.prog p args w (SgdO wd sd v w)) : Calls Tryd.prog p args w (SgdQ m C S w) := by
  refine h.mono ?_
  rintro e w' ⟨⟨s, g, cap, rfl, -, hr⟩, hb⟩
  subst em eC eS
  exact ⟨s, g, cap, rfl, hr, hb⟩
end Go.Proofs.YtmdmjjobhkpojaaDoor
